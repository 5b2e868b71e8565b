/- Ours. -/
import Derived.Test.YtippochapiolpaaGreatDoorUMkdir
import Derived.Test.YtippochapiolpaaGreatDoorShelfW
import Derived.Test.YtippochapiolpaaGreatDoorTell
set_option maxHeartbeats 8000000
set_option maxRecDepth 100000
namespace Go.Proofs.YtippochapiolpaaGreatDoor
open Go.Proofs.Tryz(func152 func156 func165 func175 func179 func181 func187 func225 func249 func253 ntmps152 ntmps156 ntmps165 ntmps175 ntmps179 ntmps181 ntmps187 ntmps225 ntmps249 ntmps253 prog)
open List(filter_cons getElem?_eq_getElem getElem_mem getElem_of_mem length_cons length_set length_take map_cons mem_cons mem_cons_self mem_map pairwise_cons pairwise_map replicate set_cons_succ set_set sum_cons)
open Nat(le_refl le_succ le_trans lt_of_lt_of_le)
open Option(isSome_iff_exists isSome_map)
section
open Go.RowKit Go.Maps
theorem Bb{a:Value}{b:Lit}(h:keyOf prog 9 a=some b):∃x:List UInt8,a=.string ⟨x.toArray⟩/\b=.string x/\x.length<=maxLen:=by
 cases a<;>simp[keyOf,Tryz.underlying9,mapKey] at h
 rename_i s
 exact⟨s.data.toList,by simp,h.2.symm,by rw[Array.length_toList];exact h.1⟩
section
variable {ops:Array Oper}{rest:List Oper}{o:Oper}{a:Act}{w:World}{Q:Exit→Act→World→Prop}
end
theorem SMap.data{w:World}{g s:Nat}{M:List UInt8->Option Value}(m:SMap w g s M):∃D:DataW Value,w.ownsMap prog 9 self g s D/\Maps.size D=s/\(strKeys D).Nodup/\(strKeys D).length=s/\∀x,x∈strKeys D↔(M x).isSome=true:=by
 obtain⟨D,b,u,C,_⟩:=m;refine⟨D,b,u,?_⟩;obtain⟨k,y,l,_⟩:=b.entries ji;obtain⟨t,h,r⟩:=b.keysOf;obtain rfl:k=t:=by rw[y] at h;simpa using h
 have j:∀p∈k,∃x,p.1=.string x:=fun p c=>by
  obtain⟨v,A⟩:=r p c;obtain⟨x,_,z,_⟩:=Bb A;exact⟨x,z⟩
 have o:(k.map fun p=>strOf p.1).Nodup:=by
  refine pairwise_map.2 (l.imp_of_mem fun {p q} c i n e=>n ?_);obtain⟨a,f⟩:=j p c;obtain⟨d,B⟩:=j q i;rw[f,B] at e ⊢;exact congrArg _ e
 subst y;refine⟨o,by rw[<-u];simp[strKeys,Maps.size],fun x=>?_⟩;rw[<-C x,has_eq,List.any_eq_true];show x∈k.map (fun p=>strOf p.1)↔_;rw[mem_map];constructor
 ·rintro ⟨p,c,rfl⟩;obtain⟨a,f⟩:=j p c;exact⟨p,c,by rw[f];simp[Lit.sameKey,strOf]⟩
 ·rintro ⟨p,c,i⟩;obtain⟨a,f⟩:=j p c;rw[f] at i;exact⟨p,c,by rw[f];simpa[Lit.sameKey,strOf] using i⟩
theorem ltr(a b c:Nm)(e:decide (a<=b)=true)(d:decide (b<=c)=true):decide (a<=c)=true:=by
 simp only[decide_eq_true_eq] at *;exact List.le_trans e d
theorem ltl(a b:Nm):(decide (a<=b) || decide (b<=a))=true:=by
 simp only[Bool.or_eq_true,decide_eq_true_eq];exact List.le_total a b
theorem Cx:∀ {a b:List Nm},a.Pairwise (fun x y=>decide (x<=y)=true)->b.Pairwise (fun x y=>decide (x<=y)=true)->a.Perm b->a=b
 | [],b,_,_,hp=>(List.nil_perm.1 hp).symm
 |x::a,b,ha,hb,hp=>by
  cases b with
  |nil=>exact absurd hp.length_eq (by simp)
  |cons y b=>
   have d:x=y:=by
    have f:x∈y::b:=hp.mem_iff.1 mem_cons_self;have c:y∈x::a:=hp.mem_iff.2 mem_cons_self;rcases mem_cons.1 f with e|f
    ·exact e
    ·rcases mem_cons.1 c with e|c
     ·exact e.symm
     ·have h:=(pairwise_cons.1 ha).1 y c;have g:=(pairwise_cons.1 hb).1 x f;simp only[decide_eq_true_eq] at h g;exact List.le_antisymm h g
   subst d;rw[Cx (pairwise_cons.1 ha).2 (pairwise_cons.1 hb).2 (List.perm_cons x |>.1 hp)]
def uz(C:List (Nm×Int)):List Nm:=uN (C.map (·.1))
theorem O9{C:List (Nm×Int)}(a:(C.map (·.1)).Nodup){L:List Nm}(f:L.Nodup)(d:∀x,x∈L↔(C.lookup x).isSome=true):uN L=uz C:=by
 have c:L.Perm (C.map (·.1)):=(List.perm_ext_iff_of_nodup f a).2 (fun x=>by
  rw[d x];constructor
  ·intro h;obtain⟨n,e⟩:=isSome_iff_exists.1 h;exact mem_map.2 ⟨(x,n),pF e,rfl⟩
  ·intro h;obtain⟨⟨y,n⟩,b,rfl⟩:=mem_map.1 h;rw[tH a b];rfl)
 exact Cx (List.pairwise_mergeSort ltr ltl L) (List.pairwise_mergeSort ltr ltl _) ((List.mergeSort_perm L _).trans (c.trans (List.mergeSort_perm _ _).symm))
theorem Pb(C:List (Nm×Int)):(uz C).length=C.length:=by unfold uz uN;rw[List.length_mergeSort,List.length_map]
end
section
open Go.RowKit Go.Maps Go.Sort Go.Shelf
theorem Ob(m:Nat):AnyZ.SortsIn prog Tryz.sortedSL_ren Fence.wide m:=
 ⟨fun e c a f W g b d=>callsIn_wide.2 (AnyM.slices_Sort_string Tryz.sortSL e c a f W g b d),
  fun p a W=>callsIn_wide.2 (AnyM.slices_Sort_string_none Tryz.sortSL p a W)⟩
def TxR(w:World)(B:Nat)(v:Value)(L:List Nm):Prop:=w.ownsRow B 9 1 v L.length (L.map encStr)
section
variable {w w':World}{r gN s:Nat}{T:Wd}{Z:Int→Nat}{B G:Int→Nat}{V:Int→Value}{O:Nat→Prop}
theorem PT.Xr(h:PT w r T O)(F:bu T)(p:List UInt8)(hp:p.length<100000)(m:Int)(X:w.cell? ⟨4,0,none⟩=some (.int .i64 m)){C:List (Nm×Int)}(hE:(aF T p).2=0)(j:T (aF T p).1=some (.dir C))(hCl:C.length<=1000):Calls prog 165 #[wp r,tx p] w fun e b=>∃v,e=.returned (.tuple #[v,.nilIface])/\TxR b w.heap.size v (uz C)/\Below w.heap.size w b:=by
 obtain⟨Z,s,B,G,V,h⟩:=h;have J:=F.toTrOk;have N:=h.num.pos J;have hF:=h.find_ok J N p hp m X;have z:=F.key _ (show (T (aF T p).1).isSome=true by rw[j];rfl);have K:(Lit.int .i64 (aF T p).1).wf=true:=gT z.1 (by omega);rw[hE,aB] at hF;generalize (aF T p).1=k at *;have f:∀a,Below w.heap.size w a->a.cell? ⟨r,0,none⟩=some (.map (some Z))/\(Instr.lookup 102 (.map (some Z)) (.int .i64 k) false).run prog a=.ok (wp (B k)) a/\a.cell? ⟨B k,0,none⟩=some (.map (some (G k)))/\SMap a (G k) C.length (fun I=>(C.lookup I).map (.int .i64 ·)):=fun a l=>by
  have H:=h.below l;have g:=H.look k K;rw[j] at g;exact⟨H.c0,g,(H.yK j).1,H.ll k C j⟩
 have hS:∀a,SMap a (G k) C.length (fun I=>(C.lookup I).map (.int .i64 ·))->CallsIn Fence.wide 5 prog 238 #[.func (.func 304) #[] #[.pointer (some ⟨a.heap.size,0,none⟩)]] (a.alloc (.cells #[.map (some (G k))] 160)) fun e b=>∃v,e=.returned v/\TxR b a.heap.size v (uz C)/\Below a.heap.size a b:=fun a U=>by
  obtain⟨D,t,M,P,Y,y⟩:=U.data;have o:SeqGives Fence.wide 2 prog 304 #[.pointer (some ⟨a.heap.size,0,none⟩)] encStr (fun d=>d.Perm (strKeys D)) (Maps.size D) (a.alloc (.cells #[.map (some (G k))] 160)):=
   AnyZ.keys_gives (ρ:=Tryz.keysSL_ren) { Tryz.keysSL with } Fence.wide _ trivial rfl (by omega) a.heap.size (G k) C.length D _ (by simp) (by simp) (by
    obtain⟨es,i,E,Ft,hs,hD⟩:=t;exact⟨es,i,(Below.heap_alloc _ _ (G k) (Array.getElem?_eq_some_iff.1 E).1).trans E,Ft,hs,hD⟩)
  have cS:=AnyZ.sorted_in Tryz.sortedSL Fence.wide 5 trivial trivial trivial trivial rfl (by omega) (Ob _) (enters_of Tryz.func303 (by kernel_rfl) rfl) 304 #[.pointer (some ⟨a.heap.size,0,none⟩)] trivial (enters_of Tryz.func304 (by kernel_rfl) rfl) _ _ (by rw[M];unfold maxLen;omega) (by omega) _ o;refine CallsIn.mono cS ?_;rintro e b ⟨v,d,rfl,c,q,_,E⟩;have R:d.Nodup:=c.nodup_iff.2 P;have S:∀x,x∈d↔(C.lookup x).isSome=true:=fun x=>by rw[c.mem_iff,y x];cases C.lookup x<;>rfl
  have u:=O9 (F.nodup k C j) R S;refine⟨v,rfl,?_,((Below.refl _ a).alloc (le_refl _) _).trans (E.mono (by simp))⟩;unfold TxR;rw[<-u];have hl:(uN d).length=d.length:=List.length_mergeSort d;rw[hl];exact ownsRow_base_a q (by simp)
 have cK:∀A W,CallsIn Fence.wide 5 prog 239 #[.map A] W fun e b=>e=.returned (.func (.func 304) #[] #[.pointer (some ⟨W.heap.size,0,none⟩)])/\b=W.alloc (.cells #[.map A] 160):=fun A W=>AnyZ.keys_in Tryz.keysSL Fence.wide 5 trivial rfl A W;have f1:Fence.wide.fn 239:=trivial;have f2:Fence.wide.fn 238:=trivial;have f3:Fence.wide.fn 233:=trivial;have f4:Fence.wide.fn 237:=trivial;clear j F J X h;refine(callsIn_wide (n:=6)).1 ?_;refine callsIn_of_wp func165 rfl trivial ?_ rfl;simp only[ntmps165,List.size_toArray,length_cons,List.length_nil,Nat.reduceAdd,Nat.reduceSub,Array.replicate_succ,Array.replicate_zero,List.push_toArray,List.append_toArray,List.nil_append,List.cons_append];gi_wp2_with (first
  |(gi_at_call 233;refine(callsIn_wide.2 hF).mono ?_;rintro e a ⟨rfl,l⟩;obtain⟨c0,g,n0,U⟩:=f a l;have Q:=hS a U)
  |(gi_at_call 237;refine(callsIn_wide.2 (rH n0)).mono ?_;rintro e b ⟨rfl,L⟩;subst b)
  |(gi_at_call 239;refine(cK _ _).mono ?_;rintro e b ⟨rfl,L⟩;subst b)
  |(gi_at_call 238;refine Q.mono ?_;rintro e w2 ⟨v,rfl,ht,b2⟩))
 go_ret2;exact⟨v,rfl,ownsRow_base_a ht l.size,l.trans (b2.mono l.size)⟩
theorem PT.Xt(h:PT w r T O)(C:bu T)(p:List UInt8)(H:p.length<100000)(m:Int)(I:w.cell? ⟨4,0,none⟩=some (.int .i64 m))(l:mZ T p≠0):Calls prog 165 #[wp r,tx p] w fun e o=>e=.returned (.tuple #[.slice none 0 0,eF (mZ T p)])/\Below w.heap.size w o:=by
 obtain⟨D,s,B,G,V,h⟩:=h;have q:=C.toTrOk;have u:=h.num.pos q;have hF:=h.find_ok q u p H m I;have a:=mH q (p:=p);unfold mZ at l ⊢;by_cases k:(aF T p).2=0
 ·rw[if_neg (fun e=>e k)] at l ⊢;have A:=a k;have j:=C.key _ A;have t:(Lit.int .i64 (aF T p).1).wf=true:=gT j.1 (by omega);rw[k,aB] at hF;generalize (aF T p).1=n at *;have g:¬nV T n=true:=fun e=>l (by rw[if_pos e]);rw[if_neg g];obtain⟨b,x,v⟩:=tL A g;have d:∀c,Below w.heap.size w c->c.cell? ⟨r,0,none⟩=some (.map (some D))/\(Instr.lookup 102 (.map (some D)) (.int .i64 n) false).run prog c=.ok (wp (B n)) c/\c.cell? ⟨B n,0,none⟩=some (.map none):=fun c i=>by
   have y:=h.below i;have f:=y.look n t;rw[v] at f;exact⟨y.c0,f,(y.ql v).1⟩
  clear l g v;go_enter func165,ntmps165
  go_wp2_with (first
   |(go_at_call 233;refine hF.mono ?_;rintro e c ⟨rfl,i⟩;obtain⟨J,f,E⟩:=d c i)
   |(go_at_call 237;refine(u6 E).mono ?_;rintro e o ⟨rfl,F⟩;subst o))
  go_ret2;exact⟨rfl,i⟩
 ·rw[if_pos k] at l ⊢;rw[ax k] at hF;generalize (aF T p).2=z at *;generalize (aF T p).1=n at *;clear a;go_enter func165,ntmps165
  go_wp2_with (go_at_call 233;refine hF.mono ?_;rintro e c ⟨rfl,i⟩)
  go_ret2;exact⟨rfl,i⟩
end
end
section
open Go.RowKit Go.Maps
def Sm(k:Nat)(T:Wd):Prop:=(∀i C,T i=some (.dir C)->C.length<=k)/\∀i b x,T i=some (.file b x)->x<=k/\b.length<=200
section
variable {T:Wd}{k:Nat}
theorem Sm.more(h:Sm k T){k':Nat}(a:k<=k'):Sm k' T:=⟨fun i C e=>le_trans (h.1 i C e) a,fun i b x e=>⟨le_trans (h.2 i b x e).1 a,(h.2 i b x e).2⟩⟩
theorem Sm.set(h:Sm k T)(n:Int){nd:Nd}(d:∀C,nd=.dir C->C.length<=k)(c:∀b x,nd=.file b x->x<=k/\b.length<=200):Sm k (cB T n nd):=by
 refine⟨fun i C e=>?_,fun i b x e=>?_⟩
 ·by_cases a:i=n
  ·subst a;rw[aj] at e;exact d C (Option.some.inj e)
  ·rw[ag _ a] at e;exact h.1 i C e
 ·by_cases a:i=n
  ·subst a;rw[aj] at e;exact c b x (Option.some.inj e)
  ·rw[ag _ a] at e;exact h.2 i b x e
theorem Sm.add(h:Sm k T)(d n:Int)(nm:Nm):Sm (k+1) (gq T d nm n):=by
 cases hd:T d with
 |none=>rw[show gq T d nm n=T by unfold gq;rw[hd]];exact h.more (by omega)
 |some nd=>cases nd with
  |file b x=>rw[show gq T d nm n=T by unfold gq;rw[hd]];exact h.more (by omega)
  |dir C=>
   rw[j5 hd];exact(h.more (le_succ k)).set d (fun a e=>by cases e;have:=h.1 d C hd;simp;omega) (fun b x e=>by cases e)
theorem Sm.del(h:Sm k T)(d:Int)(nm:Nm):Sm k (aZ T d nm):=by
 cases hd:T d with
 |none=>rw[show aZ T d nm=T by unfold aZ;rw[hd]];exact h
 |some nd=>cases nd with
  |file b x=>rw[show aZ T d nm=T by unfold aZ;rw[hd]];exact h
  |dir C=>
   rw[jD hd];exact h.set d (fun a e=>by cases e;exact le_trans (List.length_filter_le _ _) (h.1 d C hd)) (fun b x e=>by cases e)
theorem Sm.Q7(h:Sm k T):Sm k (iP T):=⟨fun i C e=>h.1 i C (zZ e),fun i b x e=>h.2 i b x (zZ e)⟩
theorem Sm.link(h:Sm k T)(p q:List UInt8):Sm (k+1) (kS T p q):=by
 unfold kS;split
 ·exact h.more (by omega)
 ·exact h.add _ _ _
theorem Sm.unlink(h:Sm k T)(p:List UInt8):Sm (k+1) (fC T p):=by
 unfold fC;split
 ·exact h.more (by omega)
 ·exact((h.del _ _).Q7).more (by omega)
theorem Sm.rename(h:Sm k T)(p q:List UInt8):Sm (k+1) (fD T p q):=by
 unfold fD;split
 ·exact h.more (by omega)
 ·exact(h.del _ _).add _ _ _
theorem Sm.make(h:Sm k T)(p:List UInt8)(a:Bool)(n:Int):Sm (k+1) (jd T p a n):=by
 unfold jd;refine(h.set n ?_ ?_).add _ _ _
 ·intro C e;cases a<;>(simp[fO] at e);rw[e];simp
 ·intro b x e;cases a<;>(simp[fO] at e);rw[e.1,<-e.2];simp
theorem Sm.hold(h:Sm k T)(n a:Int)(f:a<=1):Sm (k+1) (dh T n a):=by
 unfold dh;split
 ·rename_i b x e
  split
  ·exact h.more (by omega)
  ·refine((h.more (le_succ k)).set n (fun C c=>by cases c) (fun g d c=>?_)).Q7;cases c
   have:=h.2 n b x e;exact⟨by omega,this.2⟩
 ·exact h.more (by omega)
theorem Sm.write(h:Sm k T)(n a:Int)(x:List UInt8):Sm (k+1) (fU T n a x):=by
 unfold fU;by_cases f:cZ T n a x≠0\/x=[]
 ·rw[if_pos f];exact h.more (by omega)
 ·rw[if_neg f];cases e:T n with
  |none=>exact h.more (by omega)
  |some nd=>cases nd with
   |dir C=>exact h.more (by omega)
   |file b y=>
    simp only;refine(h.set n (fun C c=>by cases c) (fun o m c=>?_)).more (by omega);cases c
    have l:=h.2 n b y e;refine⟨l.1,?_⟩;have d:cZ T n a x=0:=by
     by_cases c:cZ T n a x=0
     ·exact c
     ·exact absurd (.inl c) f
    unfold cZ at d;have j:bF T n=0:=by unfold bF;rw[e]
    rw[if_neg (fun e=>e j)] at d;by_cases g:a<0
    ·rw[if_pos g] at d;omega
    ·rw[if_neg g] at d;by_cases i:(200:Int)<x.length\/200-(x.length:Int)<a
     ·rw[if_pos i] at d;omega
     ·rw[Cw];omega
theorem bu.hold(e:bu T)(n:Int){a:Int}(i:a=1\/a=-1)(h:∀b x,T n=some (.file b x)->x+1<=1000):bu (dh T n a):=by
 by_cases g:bF T n=0
 ·obtain⟨b,x,c⟩:=mJ g;rcases i with rfl|rfl
  ·have d:=e.Ja (b':=b) (x':=x+1) c (e.small n b x c).1 (h b x c) (.inl (by omega));have f:dh T n 1=cB T n (.file b (x+1)):=by
    unfold dh;rw[c];simp only;rw[if_neg (by omega),show ((x:Int)+1).toNat=x+1 by omega];exact zY d.toTrOk d.lv
   rw[f];exact d
  ·cases x with
   |zero=>
    have f:dh T n (-1)=T:=by unfold dh;rw[c];simp only;rw[if_pos (by omega)]
    rw[f];exact e
   |succ x=>exact(CZ e c).2.2
 ·have f:dh T n a=T:=by
   unfold dh;cases c:T n with
   |none=>rfl
   |some nd=>cases nd with
    |dir C=>rfl
    |file b x=>exact absurd (by unfold bF;rw[c]) g
  rw[f];exact e
theorem bu.Om(c:bu T){n:Int}{b b':List UInt8}{x:Nat}(a:T n=some (.file b x))(d:b'.length<=256):bu (cB T n (.file b' x)):=by
 refine c.Ja a d (c.small n b x a).2 ?_;rcases c.lv n _ a with e|e|e
 ·exact absurd e (Ex c.toTrOk a)
 ·exact .inr e
 ·exact .inl e
theorem bu.write(d:bu T)(n a:Int)(x:List UInt8):bu (fU T n a x):=by
 unfold fU;split
 ·exact d
 ·rename_i i
  split
  ·rename_i b y e
   refine d.Om e ?_;have c:cZ T n a x=0:=by
    by_cases g:cZ T n a x=0
    ·exact g
    ·exact absurd (.inl g) i
   have k:=(d.small n b y e).1;unfold cZ at c;have j:bF T n=0:=by unfold bF;rw[e]
   rw[if_neg (fun e=>e j)] at c;by_cases f:a<0
   ·rw[if_pos f] at c;omega
   ·rw[if_neg f] at c;by_cases h:(200:Int)<x.length\/200-(x.length:Int)<a
    ·rw[if_pos h] at c;omega
    ·rw[Cw];omega
  ·exact d
theorem bu.make(d:bu T){s:Nat}{p:List UInt8}(g:aY T s p=0){n:Int}(c:fV T n)(h:n<64)(a:Bool):bu (jd T p a n):=by
 obtain⟨_,⟨C,f,e⟩,b,_⟩:=mF d.toTrOk g;exact(CG d a f e b c.none c.pos h).2.2.2
end
def jq(D:DS)(d:Int):DS:={ D with R:=fun j=>if j=d then some ((D.R j).getD 0+1) else D.R j }
theorem MK{D:DS}{d c:Int}(a:D.R d=some c):jq D d={ D with R:=fun j=>if j=d then some (c+1) else D.R j }:=by
 unfold jq;congr 1
 funext j;split
 ·rename_i e;rw[e,a];rfl
 ·rfl
structure Cl (D:DS) (d:Int) (e:En) (c:Int):Prop extends CanClose D d e c where
 lv:bu D.T
def Live(D:DS)(N:Ns):Prop:=∀i (hi:i<N.length),0<N[i].1->(D.E N[i].1).isSome=true
section
variable {D:DS}{d:Int}{e:En}
theorem xK{c:Int}(a:CanClose D d e c)(b:0<c-1):aT D d={ D with R:=fun i=>if i=d then some (c-1) else D.R i }:=by
 unfold aT;rw[a.gz,a.cnt];simp only;rw[if_pos b]
theorem xL{c:Int}(a:CanClose D d e c)(b:¬0<c-1)(f:e.kind=1):aT D d={ T:=dh D.T e.node (-1),E:=fun i=>if i=d then none else D.E i,R:=fun i=>if i=d then none else if i=d then some (c-1) else D.R i,P:=D.P,nx:=D.nx }:=by
 unfold aT;rw[a.gz,a.cnt];simp only;rw[if_neg b,if_pos f]
theorem AY{c:Int}(a:CanClose D d e c)(b:¬0<c-1)(f:e.kind≠1):aT D d={ T:=D.T,E:=fun i=>if i=d then none else D.E i,R:=fun i=>if i=d then none else if i=d then some (c-1) else D.R i,P:=fun i=>if i=e.pipe then some (rU ((D.P e.pipe).getD ([],0,0)) e.kind) else D.P i,nx:=D.nx }:=by
 unfold aT;rw[a.gz,a.cnt];simp only;rw[if_neg b,if_neg f]
end
def sF(d:Int)(N:Ns):Nat:=(N.filter (fun x=>x.1==d)).length
def jv(d:Int)(Ts:List Ns):Nat:=(Ts.map (sF d)).sum
theorem MX(d:Int)(N:Ns):sF d N<=N.length:=List.length_filter_le _ _
theorem G9:∀(N:Ns) (d:Int) (i:Nat) (y:Int×Bool) (h:i<N.length),sF d (N.set i y)+(if N[i].1=d then 1 else 0)=sF d N+(if y.1=d then 1 else 0)
 | [],_,i,_,h=>by simp at h
 |x::N,d,0,y,h=>by
  simp only[List.set_cons_zero,List.getElem_cons_zero,sF,filter_cons];by_cases a:x.1=d<;>by_cases c:y.1=d<;>simp[a,c]
 |x::N,d,i+1,y,h=>by
  have b:=G9 N d i y (by simpa using h);simp only[set_cons_succ,List.getElem_cons_succ];unfold sF at b ⊢;rw[filter_cons,filter_cons];by_cases a:x.1=d
  ·simp only[a,beq_self_eq_true,if_true,length_cons];omega
  ·simp only[beq_eq_false_iff_ne.2 a,Bool.false_eq_true,if_false];omega
theorem G8:∀(Ts:List Ns) (d:Int) (j:Nat) (a:Ns) (h:j<Ts.length),jv d (Ts.set j a)+sF d Ts[j]=jv d Ts+sF d a
 | [],_,j,_,h=>by simp at h
 |x::Ts,d,0,a,h=>by simp[jv];omega
 |x::Ts,d,j+1,a,h=>by
  have b:=G8 Ts d j a (by simpa using h);simp only[set_cons_succ,List.getElem_cons_succ];unfold jv at b ⊢;simp only[map_cons,sum_cons];omega
theorem qL{Ts:List Ns}{j i:Nat}(a:j<Ts.length)(b:i<Ts[j].length)(d:Int)(y:Int×Bool):jv d (Ts.set j (Ts[j].set i y))+(if Ts[j][i].1=d then 1 else 0)=jv d Ts+(if y.1=d then 1 else 0):=by
 have e:=G8 Ts d j (Ts[j].set i y) a;have c:=G9 Ts[j] d i y b;omega
theorem MW:∀(d:Int) (Ts:List Ns),(∀N∈Ts,N.length=8)->jv d Ts<=8*Ts.length
 |_,[],_=>Nat.zero_le _
 |d,x::Ts,h=>by
  have a:=MW d Ts (fun N b=>h N (List.mem_cons_of_mem _ b));have e:=MX d x;have c:=h x mem_cons_self;unfold jv at a ⊢;simp only[map_cons,sum_cons,length_cons];omega
theorem UQ{N:Ns}{i:Nat}(a:i<N.length):0<sF N[i].1 N:=List.length_pos_of_mem (List.mem_filter.2 ⟨getElem_mem a,by simp⟩)
theorem fK:∀ {Ts:List Ns}{j i:Nat}(b:j<Ts.length) (a:i<Ts[j].length),0<jv Ts[j][i].1 Ts
 |x::Ts,0,i,_,a=>by
  have:=UQ (N:=x) (i:=i) a;simp only[jv,map_cons,sum_cons,List.getElem_cons_zero];omega
 |x::Ts,j+1,i,b,a=>by
  have c:=fK (Ts:=Ts) (j:=j) (i:=i) (by simpa using b) a;simp only[jv,map_cons,sum_cons,List.getElem_cons_succ] at c ⊢;omega
structure mW (D:DS) (C:Int->Nat) (k:Nat):Prop where
 jW:Given D
 lv:bu D.T
 sm:Sm k D.T
 gz:∀d e,D.E d=some e->DD D e
 cE:∀d,0<d->((D.E d).isSome=true↔0<C d)
 cR:∀d,0<d->D.R d=if 0<C d then some (C d:Int) else none
section
variable {D:DS}{C C':Int→Nat}{k:Nat}{d:Int}{e:En}
theorem mW.congr(h:mW D C k)(b:∀d,0<d->C d=C' d):mW D C' k:=
 ⟨h.jW,h.lv,h.sm,h.gz,fun d a=>by rw[<-b d a];exact h.cE d a,fun d a=>by rw[<-b d a];exact h.cR d a⟩
theorem mW.more(h:mW D C k){k':Nat}(a:k<=k'):mW D C k':=⟨h.jW,h.lv,h.sm.more a,h.gz,h.cE,h.cR⟩
theorem mW.cl(h:mW D C k)(f:0<d)(g:0<C d)(s:C d<100000):∃e,Cl D d e (C d):=by
 obtain⟨e,c⟩:=isSome_iff_exists.1 ((h.cE d f).2 g);have a:=h.gz d e c;have r:=h.jW.e d (by rw[c];rfl);have q:=h.jW.n1;refine⟨e,⟨f,by omega,c,by rw[h.cR d f,if_pos g],by omega,by omega,a.kind,fun b=>?_,fun b=>?_⟩,h.lv⟩
 ·have:=a.file b;omega
 ·obtain⟨u,t,p,o,n,m,l,j,i⟩:=a.pipe b;exact⟨by omega,by omega,p,o,n,m,l,j,i⟩
theorem DD.keep{D D':DS}(h:DD D e)(l:D.nx<=D'.nx)(b:∀p x,D.P p=some x->x.1.length<=16->0<=x.2.1->x.2.1<1000->0<=x.2.2->x.2.2<1000->∃y,D'.P p=some y/\y.1.length<=16/\0<=y.2.1/\y.2.1<1000/\0<=y.2.2/\y.2.2<1000):DD D' e:=by
 refine⟨h.kind,h.file,h.aR,h.into,fun a=>?_⟩;obtain⟨k,m,p,j,i,g,f,d,c⟩:=h.pipe a;exact⟨k,by omega,b _ p j i g f d c⟩
theorem DD.same{D D':DS}(h:DD D e)(g:D.nx<=D'.nx)(i:D'.P=D.P):DD D' e:=h.keep g (fun p x a b c d e f=>⟨x,by rw[i];exact a,b,c,d,e,f⟩)
theorem mW.inc(h:mW D C k)(g:0<d)(e:0<C d):mW (jq D d) (fun x=>if x=d then C d+1 else C x) k:=by
 have f:D.R d=some (C d:Int):=by rw[h.cR d g,if_pos e]
 rw[MK f];refine⟨⟨h.jW.n0,h.jW.n1,h.jW.e,fun x b=>?_,h.jW.p⟩,h.lv,h.sm,fun x i b=>(h.gz x i b).same (Int.le_refl _) rfl,fun x b=>?_,fun x b=>?_⟩
 ·have c:(if x=d then some ((C d:Int)+1) else D.R x).isSome=true:=b;by_cases a:x=d
  ·subst a;exact h.jW.r x (by rw[f];rfl)
  ·rw[if_neg a] at c;exact h.jW.r x c
 ·show (D.E x).isSome=true↔0<(if x=d then C d+1 else C x);rw[h.cE x b];by_cases a:x=d
  ·subst a;simp[e]
  ·rw[if_neg a]
 ·show (if x=d then some ((C d:Int)+1) else D.R x)=_;by_cases a:x=d
  ·subst a;simp
  ·rw[if_neg a,h.cR x b];simp only[if_neg a]
theorem Sm.drop{T:Wd}(h:Sm k T)(n:Int):Sm k (dh T n (-1)):=by
 unfold dh;split
 ·rename_i b x e
  split
  ·exact h
  ·refine(h.set n (fun C a=>by cases a) (fun d c a=>?_)).Q7;cases a
   have:=h.2 n b x e;exact⟨by omega,this.2⟩
 ·exact h
theorem mW.close(h:mW D C k)(M:k<=900)(v:0<d)(w:0<C d)(z:C d<100000):mW (aT D d) (fun x=>if x=d then C d-1 else C x) k:=by
 obtain⟨e,n⟩:=h.cl v w z;have r:=h.jW.e d (by rw[n.gz];rfl);by_cases o:0<((C d:Int))-1
 ·rw[xK n.toCanClose o];refine⟨⟨h.jW.n0,h.jW.n1,h.jW.e,fun x f=>?_,h.jW.p⟩,h.lv,h.sm,fun x i f=>(h.gz x i f).same (Int.le_refl _) rfl,fun x f=>?_,fun x f=>?_⟩
  ·have c:(if x=d then some ((C d:Int)-1) else D.R x).isSome=true:=f;by_cases a:x=d
   ·subst a;exact r
   ·rw[if_neg a] at c;exact h.jW.r x c
  ·show (D.E x).isSome=true↔0<(if x=d then C d-1 else C x);rw[h.cE x f];by_cases a:x=d
   ·subst a;rw[if_pos rfl];omega
   ·rw[if_neg a]
  ·show (if x=d then some ((C d:Int)-1) else D.R x)=_;by_cases a:x=d
   ·subst a;simp only[if_true];rw[if_pos (by omega)];congr 1;omega
   ·rw[if_neg a,h.cR x f];simp only[if_neg a]
 ·have m:C d=1:=by omega
  have t:∀x,0<x->((if x=d then none else D.E x:Option En).isSome=true↔0<(if x=d then C d-1 else C x)):=fun x f=>by
   by_cases a:x=d
   ·subst a;simp[m]
   ·rw[if_neg a,if_neg a];exact h.cE x f
  have s:∀x,0<x->(if x=d then none else if x=d then some ((C d:Int)-1) else D.R x)=if 0<(if x=d then C d-1 else C x) then some (((if x=d then C d-1 else C x:Nat)):Int) else none:=fun x f=>by
   by_cases a:x=d
   ·subst a;simp[m]
   ·rw[if_neg a,if_neg a,h.cR x f];simp only[if_neg a]
  have l:∀x,(if x=d then none else D.E x:Option En).isSome=true->0<x/\x<=D.nx:=fun x f=>by
   by_cases a:x=d
   ·rw[if_pos a] at f;cases f
   ·rw[if_neg a] at f;exact h.jW.e x f
  have j:∀x,(if x=d then none else if x=d then some ((C d:Int)-1) else D.R x:Option Int).isSome=true->0<x/\x<=D.nx:=fun x f=>by
   by_cases a:x=d
   ·rw[if_pos a] at f;cases f
   ·rw[if_neg a,if_neg a] at f;exact h.jW.r x f
  by_cases g:e.kind=1
  ·rw[xL n.toCanClose o g];refine⟨⟨h.jW.n0,h.jW.n1,l,j,h.jW.p⟩,h.lv.hold e.node (.inr rfl) (fun b x f=>by have:=(h.sm.2 _ b x f).1;omega),h.sm.drop _,fun x i f=>?_,t,s⟩;have c:(if x=d then none else D.E x:Option En)=some i:=f;by_cases a:x=d
   ·rw[if_pos a] at c;cases c
   ·rw[if_neg a] at c;exact(h.gz x i c).same (Int.le_refl _) rfl
  ·obtain⟨L,K,p,J,I,Q,P,O,N⟩:=(h.gz d e n.gz).pipe g;rw[AY n.toCanClose o g];refine⟨⟨h.jW.n0,h.jW.n1,l,j,fun x f=>?_⟩,h.lv,h.sm,fun x i f=>?_,t,s⟩
   ·have c:(if x=e.pipe then some (rU ((D.P e.pipe).getD ([],0,0)) e.kind) else D.P x).isSome=true:=f;by_cases a:x=e.pipe
    ·rw[a];exact⟨L,K⟩
    ·rw[if_neg a] at c;exact h.jW.p x c
   ·have c:(if x=d then none else D.E x:Option En)=some i:=f;by_cases a:x=d
    ·rw[if_pos a] at c;cases c
    ·rw[if_neg a] at c;refine(h.gz x i c).keep (Int.le_refl _) (fun q y H G F E B A=>?_);by_cases u:q=e.pipe
     ·refine⟨rU p e.kind,by show (if q=e.pipe then some (rU ((D.P e.pipe).getD ([],0,0)) e.kind) else D.P q)=_;rw[if_pos u,J];rfl,?_⟩;unfold rU Vw Vv;simp only;refine⟨I,?_,?_,?_,?_⟩<;>(split<;>omega)
     ·exact⟨y,(if_neg u).trans H,G,F,E,B,A⟩
theorem KZ{x:Int}(h:((aT D d).E x).isSome=true):(D.E x).isSome=true:=by
 unfold aT at h;split at h
 ·split at h
  ·exact h
  ·split at h
   ·have a:(if x=d then none else D.E x:Option En).isSome=true:=h;by_cases b:x=d
    ·rw[if_pos b] at a;cases a
    ·rw[if_neg b] at a;exact a
   ·have a:(if x=d then none else D.E x:Option En).isSome=true:=h;by_cases b:x=d
    ·rw[if_pos b] at a;cases a
    ·rw[if_neg b] at a;exact a
 ·exact h
end
section
variable {w w' w2:World}{f b n:Nat}{D D':DS}{g g':QG}{M N N':Ns}{d k:Int}{e:En}
theorem QF.Ko(h:QF w f D g n):Calls prog 225 #[wp f,.int .i64 0] w fun x b=>x=.returned (.tuple #[])/\b=w:=by
 have e:=h.cells.2;have a:=h.look (k:=0) (by omega) (by omega);rw[Et h.k0] at a;have c:=sN f;have d:=Ez;go_enter func225,ntmps225
 go_wp2_with fail
 refine bodyPost_ret (results_none rfl _ _ _) rfl ?_;exact⟨rfl,rfl⟩
theorem QF.Kq(h:QF w f D g n)(r:g.K k=some d){c:Int}(a:CanClose D d e c)(u:0<c-1):Calls prog 225 #[wp f,.int .i64 k] w fun x p=>x=.returned (.tuple #[])/\(∃g' j,QF p f (aT D d) g' j/\Ext w (aT D d) g g')/\Wt (fun i=>(g.dA i).isSome=true) w p:=by
 obtain⟨_,v,o⟩:=h.key k d r;have H:=h.cells.2;have l:=h.look (k:=k) (by omega) o;rw[uO r] at l;have E:=sN f;have F:=DU (g.B d);obtain⟨_,_,G,_,_,_,A⟩:=h.lU a.gz a.cnt;have z:=A 2;obtain⟨_,_,_,m⟩:=h.gz d e a.gz;have s:=h.count a.gz (c-1);have y:=aV w (g.B d) 2 (.int .i64 (c-1));obtain⟨_,_,B,_,_,_,_⟩:=s.lU a.gz (if_pos rfl);rw[xK a u];have b:(∃g' j,QF (w.setCell ⟨g.B d,2,none⟩ (.int .i64 (c-1))) f { D with R:=fun i=>if i=d then some (c-1) else D.R i } g' j/\Ext w { D with R:=fun i=>if i=d then some (c-1) else D.R i } g g')/\Wt (fun i=>(g.dA i).isSome=true) w (w.setCell ⟨g.B d,2,none⟩ (.int .i64 (c-1))):=⟨⟨g,n,s,Ext.refl _ _ _⟩,Wt.grown y (by rw[m];rfl)⟩;have t:wrap64 (c-1)=c-1:=by have:=a.c0;have:=a.c1;unfold wrap64;omega
 have C:((c-1:Int)==0)=false:=by simp;omega
 generalize ({ D with R:=fun i=>if i=d then some (c-1) else D.R i }:DS)=D2 at *;generalize g.B d=q at *;go_enter func225,ntmps225
 go_wp2_with fail
 go_end0
 exact⟨rfl,b⟩
structure LvS (w w2 w3:World) (f:Nat) (g:QG) (D:DS) (k d c:Int) (e:En):Prop where
 c1:w.cell? ⟨f,1,none⟩=some (.map (some g.gO))
 lk:(Instr.lookup 105 (.map (some g.gO)) (.int .i64 k) false).run prog w=.ok (wp (g.B d)) w
 e2:w.cell? ⟨g.B d,2,none⟩=some (.int .i64 c)
 ez:w.frozen? ⟨g.B d,2,none⟩=false
 e2':(w.setCell ⟨g.B d,2,none⟩ (.int .i64 (c-1))).cell? ⟨g.B d,2,none⟩=some (.int .i64 (c-1))
 c1':(w.setCell ⟨g.B d,2,none⟩ (.int .i64 (c-1))).cell? ⟨f,1,none⟩=some (.map (some g.gO))
 del:∀ty,(Builtin.delete_ #[105,3] ty #[.map (some g.gO),.int .i64 k]).run prog (w.setCell ⟨g.B d,2,none⟩ (.int .i64 (c-1)))=.ok (.tuple #[]) w3
 wt:Wt (fun i=>(g.dA i).isSome=true) w w3
 tag:g.dA (g.B d)=some (.gz d)
 blk:w3.heap[g.B d]? = some (.cells (kN g e (c-1)) 296)
 st:∃n',QF w3 f { D with E:=fun i=>if i=d then none else D.E i,R:=fun i=>if i=d then none else if i=d then some (c-1) else D.R i } { g with K:=fun i=>if i=k then none else g.K i } n'
theorem QF.leaving(h:QF w f D g n)(p:g.K k=some d){c:Int}(j:CanClose D d e c):∃w3,LvS w w w3 f g D k d c e:=by
 obtain⟨_,t,o⟩:=h.key k d p;have b:=h.look (k:=k) (by omega) o;rw[uO p] at b;obtain⟨_,_,A,_,_,_,z⟩:=h.lU j.gz j.cnt;obtain⟨B,u,l,a⟩:=h.gz d e j.gz;have m:=h.count j.gz (c-1);have y:=aV w (g.B d) 2 (.int .i64 (c-1));obtain⟨_,_,r,_,_,_,_⟩:=m.lU j.gz (if_pos rfl);obtain⟨w3,i,s,q⟩:=MR m.map Tryz.underlying105 k (gT (by omega) (by omega));have v:=m.gone p s q;refine⟨w3,h.cells.2,b,A,z 2,r,m.cells.2,i,(Wt.grown y (by rw[a];rfl)).trans (Wt.grown q (by rw[h.tm];rfl)),a,?_,_,v⟩;rw[q.block _ (m.lt _ (by rw[a];rfl)) (fun x=>oZ a h.tm (by simp) (Option.some.inj x))];exact GZ l _
theorem GX{w3:World}(h:g.K k=some d)(l:D'.E d=none)(j:g'.K=fun i=>if i=k then none else g.K i)(a:∀i,i<w.heap.size->g'.dA i=g.dA i)(f:g'.r=g.r)(_:w3=w3):Ext w D' g g':=by
 refine⟨a,fun i x b c=>?_,f⟩;rw[j];show (if i=k then none else g.K i)=some x;by_cases e:i=k
 ·rw[e,h] at b;rw[<-Option.some.inj b,l] at c;cases c
 ·rw[if_neg e];exact b
theorem QF.Kr(h:QF w f D g n)(v:g.K k=some d){c:Int}(l:Cl D d e c)(F:¬0<c-1):Calls prog 225 #[wp f,.int .i64 k] w fun x j=>x=.returned (.tuple #[])/\(∃g' m,QF j f (aT D d) g' m/\Ext w (aT D d) g g')/\Wt (fun i=>(g.dA i).isSome=true) w j:=by
 obtain⟨o,L⟩:=h.leaving v l.toCanClose;obtain⟨m,G⟩:=L.st;have J:=L.wt.size;have z:Calls prog 294 #[wp f,wp (g.B d)] o fun x j=>x=.returned (.tuple #[])/\(∃g' m,QF j f (aT D d) g' m/\Ext w (aT D d) g g')/\Wt (fun i=>(g.dA i).isSome=true) w j:=by
  by_cases a:e.kind=1
  ·have r:pv g e=.pointer none:=if_pos a;have s:=l.node a;refine(G.Oh (q:=g.B d) L.blk L.tag a l.lv s.1 s.2).mono ?_;rintro x j ⟨rfl,⟨g',C,T,S,R⟩,u⟩;rw[xL l.toCanClose F a];exact⟨rfl,⟨g',m,C,GX (w3:=o) v (if_pos rfl) S (fun i N=>T i (by omega)) R rfl⟩,L.wt.trans u⟩
  ·obtain⟨W,V,p,E,K,Q,P,I,H⟩:=l.pipe a;have r:pv g e=wp (g.Q e.pipe):=if_neg a;have b:=L.blk;rw[kN,r] at b;refine(G.SY (q:=g.B d) (p:=e.pipe) b L.tag a E ⟨Q,P⟩ ⟨I,H⟩).mono ?_;rintro x j ⟨rfl,C,u⟩;rw[AY l.toCanClose F a,E];exact⟨rfl,⟨_,m,C,GX (w3:=o) v (if_pos rfl) rfl (fun i N=>rfl) rfl rfl⟩,L.wt.trans u⟩
 have y:c=1:=by have:=l.c0;omega
 subst y;have c1:=L.c1;have M:=L.lk;have e2:=L.e2;have Z:=L.ez;have A:=L.e2';have B:=L.c1';have t:=L.del;have X:=sN f;have Y:=DU (g.B d);generalize aT D d=D2 at *;simp only[show (1:Int)-1=0 by omega] at A B t;generalize g.B d=q at *;go_enter func225,ntmps225
 go_wp2_with (go_at_call 294;refine z.mono ?_;rintro x U ⟨rfl,O⟩)
 go_end0
 exact⟨rfl,O⟩
theorem QF.GH(h:QF w f D g n)(j:g.K k=some d){c:Int}(l:Cl D d e c):Calls prog 225 #[wp f,.int .i64 k] w fun x a=>x=.returned (.tuple #[])/\(∃g' m,QF a f (aT D d) g' m/\Ext w (aT D d) g g')/\Wt (fun i=>(g.dA i).isSome=true) w a:=by
 by_cases b:0<c-1
 ·exact h.Kq j l.toCanClose b
 ·exact h.Kr j l b
theorem QF.nC(h:QF w f D g n)(t:dK w b g M N){i:Nat}(s:i<8)(J:i<N.length)(I:0<N[i].1){c:Int}(E:Cl D N[i].1 e c)(A:Live (aT D N[i].1) (N.set i (0,false))):Calls prog 220 #[wp f,wp b,.int .i64 (i:Int)] w fun x d=>x=.returned (.tuple #[])/\dE w d f (aT D N[i].1) g b (N.set i (0,false)):=by
 have G:i<M.length:=by have:=t.tab.len;omega
 have B:=t.keyOf G J I;obtain⟨R,Q⟩:=t.tab.at s;have O:=t.tab.free (i*2);have L:=t.tab.free (i*2+1);have a:=t.set (i:=i) (0,false) (0,false) (t.tab.put s (0,false) ⟨by simp,by simp,fun _=>rfl⟩) ⟨rfl,.inl ⟨rfl,rfl⟩⟩;have q:=QT.Cq w b i (.int .i64 0) (.bool false);have v:=h.DR t.off q;obtain⟨W,u⟩:∃W,(w.setCell ⟨b,i*2,none⟩ (.int .i64 0)).setCell ⟨b,i*2+1,none⟩ (.bool false)=W:=⟨_,rfl⟩;simp only at a;rw[u] at a q v;have H:=v.GH B E;have k:∀d,(∃m p,QF d f (aT D N[i].1) m p/\Ext W (aT D N[i].1) g m)->Wt (fun i=>(g.dA i).isSome=true) W d->dE w d f (aT D N[i].1) g b (N.set i (0,false)):=fun d y l=>by
  obtain⟨m,p,K,o⟩:=y;have z:W.heap.size=w.heap.size:=by rw[<-u];simp[World.setCell]
  refine⟨⟨m,p,_,K,a.other o (l.block b a.tab.lt (by rw[t.off];simp)) A,⟨fun j r=>o.dA j (by omega),o.key,o.r⟩⟩,(Wt.grown q (.inr rfl)).trans (l.mono (fun j r=>.inl r))⟩
 generalize aT D N[i].1=D2 at *;generalize N.set i (0,false)=N2 at *;generalize M[i].1=X at *;generalize M[i].2=Y at *;have C:(i:Int)<8:=by omega
 go_enter Tryz.func220,Tryz.ntmps220
 go_upto_region 2 with fail
 go_wp2_with (go_at_call 225;refine H.mono ?_;rintro x P ⟨rfl,F,l⟩)
 go_end0
 exact⟨rfl,k _ F l⟩
end
section
variable {w w' w2:World}{f b n:Nat}{D D':DS}{g g':QG}{M N N':Ns}{d k:Int}{e:En}
theorem QF.same(h:QF w f D g n)(t:dK w b g M N)(a:Below w.heap.size w w'):dE w w' f D g b N:=⟨⟨g,n,M,h.below a,t.below a,Ext.refl _ _ _⟩,Wt.below _ a⟩
theorem dE.upon(d:Below w.heap.size w w')(h:dE w' w2 f D' g b N'):dE w w2 f D' g b N':=by
 obtain⟨⟨l,j,m,a,c,x⟩,e⟩:=h;exact⟨⟨l,j,m,a,c,⟨fun i k=>x.dA i (lt_of_lt_of_le k d.size),x.key,x.r⟩⟩,(Wt.below _ d).trans e⟩
theorem QF.UW(h:QF w f D g n)(t:dK w b g M N)(x:Int)(c:aJ N x=false):Calls prog 148 #[wp f,wp b,.int .i64 x] w fun y a=>y=.returned (eF 7)/\dE w a f D g b N:=by
 have hF:=h.j4 t x c;have d:∀a,Below w.heap.size w a->dE w a f D g b N:=fun a e=>h.same t e;go_enter Tryz.func148,Tryz.ntmps148
 go_wp2_with (go_at_call 219;refine hF.mono ?_;rintro y j ⟨rfl,i⟩)
 go_ret;exact⟨rfl,d _ i⟩
theorem QF.zM(h:QF w f D g n)(t:dK w b g M N){i:Nat}(k:i<8)(m:i<N.length)(l:0<N[i].1){c:Int}(r:Cl D N[i].1 e c)(p:Live (aT D N[i].1) (N.set i (0,false))):Calls prog 148 #[wp f,wp b,.int .i64 (i:Int)] w fun y a=>y=.returned .nilIface/\dE w a f (aT D N[i].1) g b (N.set i (0,false)):=by
 have hF:=h.ay t k m l;have o:∀V,Below w.heap.size w V->Calls prog 220 #[wp f,wp b,.int .i64 (i:Int)] V fun x a=>x=.returned (.tuple #[])/\dE w a f (aT D N[i].1) g b (N.set i (0,false)):=fun V d=>by
  refine((h.below d).nC (t.below d) k m l r p).mono ?_;rintro x a ⟨rfl,j⟩;exact⟨rfl,j.upon d⟩
 generalize aT D N[i].1=D2 at *;generalize N.set i (0,false)=N2 at *;generalize g.B N[i].1=q at *;go_enter Tryz.func148,Tryz.ntmps148
 go_wp2_with (first
  |(go_at_call 219;refine hF.mono ?_;rintro y v ⟨rfl,s⟩)
  |(go_at_call 220;refine(o _ s).mono ?_;rintro y u ⟨rfl,j⟩))
 go_ret;exact⟨rfl,j⟩
theorem QF.Xm(h:QF w f D g n)(t:dK w b g M N)(x:Int)(c:Bool):Calls prog 172 #[wp f,wp b,.int .i64 x,.bool c] w fun y d=>y=.returned (aI (if aJ N x=true then 0 else 7))/\dE w d f D g b (kR N x c):=by
 by_cases a:aJ N x=true
 ·obtain⟨i,rfl,m,s,p⟩:=dU a t.len;rw[if_pos a];have l:kR N i c=N.set i (N[i].1,c):=by
   unfold kR;rw[if_pos a,getD_in s,show (i:Int).toNat=i by omega]
  rw[l];have H:i<M.length:=by have:=t.tab.len;omega
  have v:=t.keyOf H s p;obtain⟨_,E,_⟩:=h.key _ _ v;have hF:=h.ay t m s p;have e:∀V,Below w.heap.size w V->(∃u,V.cell? ⟨b,i*2+1,none⟩=some u)/\V.frozen? ⟨b,i*2+1,none⟩=false/\dE w (V.setCell ⟨b,i*2+1,none⟩ (.bool c)) f D g b (N.set i (N[i].1,c)):=fun V o=>by
   have j:=t.below o;have B:=j.set (i:=i) (M[i].1,c) (N[i].1,c) (j.tab.mark m c (by omega)) ⟨rfl,.inr ⟨p,v⟩⟩;have z:=aV V b (i*2+1) (.bool c);exact⟨⟨_,(j.tab.at m).2⟩,j.tab.free _,⟨⟨g,n,_,(h.below o).DR t.off z,B,Ext.refl _ _ _⟩,(Wt.below _ o).trans (Wt.grown z (.inr rfl))⟩⟩
  generalize N.set i (N[i].1,c)=N2 at *;generalize g.B N[i].1=q at *;have F:(i:Int)<8:=by omega
  go_enter Tryz.func172,Tryz.ntmps172
  go_upto_region 4 with (go_at_call 219;refine hF.mono ?_;rintro y A ⟨rfl,r⟩)
  obtain⟨⟨u,K⟩,J,I⟩:=e _ r;go_wp2_with fail
  go_ret;exact⟨rfl,I⟩
 ·have k:aJ N x=false:=by simpa using a
  rw[if_neg a,show kR N x c=N from if_neg a];have hF:=h.j4 t x k;have C:∀d,Below w.heap.size w d->dE w d f D g b N:=fun d G=>h.same t G;go_enter Tryz.func172,Tryz.ntmps172
  go_wp2_with (go_at_call 219;refine hF.mono ?_;rintro y A ⟨rfl,r⟩)
  go_ret;exact⟨rfl,C _ r⟩
theorem QF.Wl(h:QF w f D g n)(t:dK w b g M N)(x a:Int)(Y:Live D N):Calls prog 181 #[wp f,wp b,.int .i64 x,.int .i64 a] w fun y k=>y=.returned (aI (kg D N x a))/\dE w k f (kr D N x a) g b N:=by
 by_cases I:aJ N x=true
 ·obtain⟨i,rfl,W,L,T⟩:=dU I t.len;obtain⟨e,r⟩:=isSome_iff_exists.1 (Y i L T);have hF:=h.ay t W L T;have s:∀V,Below w.heap.size w V->Calls prog 254 #[wp (g.B N[i].1)] V fun x k=>x=.returned (.bool (e.kind==1))/\k=V:=fun V F=>(h.below F).oQ r;have d:kg D N i a=if e.kind≠1 then 6 else if 0<=a/\a<=200 then 0 else 2:=by
   unfold kg;rw[if_pos I,getD_in L,r]
  have G:kg D N i a≠0->kr D N i a=D:=fun h=>if_neg h;by_cases J:e.kind=1
  ·rw[J] at s;rw[if_neg (fun z=>z J)] at d;by_cases K:0<=a/\a<=200
   ·rw[if_pos K] at d;have S:kr D N i a={ D with E:=fun j=>if j=N[i].1 then some { e with pos:=a } else D.E j }:=by
     unfold kr;rw[if_pos d,getD_in L,r]
    rw[d,S];obtain⟨c,X,_,v⟩:=h.gz _ e r;have A:∀V,Below w.heap.size w V->(∃u,V.cell? ⟨g.B N[i].1,4,none⟩=some u)/\V.frozen? ⟨g.B N[i].1,4,none⟩=false/\dE w (V.setCell ⟨g.B N[i].1,4,none⟩ (.int .i64 a)) f { D with E:=fun j=>if j=N[i].1 then some { e with pos:=a } else D.E j } g b N:=fun V F=>by
     have C:=h.below F;obtain⟨_,_,_,_,e4,_,ez⟩:=C.lU r X;have U:=aV V (g.B N[i].1) 4 (.int .i64 a);exact⟨⟨_,e4⟩,ez 4,⟨⟨g,n,M,C.place r a,(t.below F).sJ (by rw[v];rfl) U,Ext.refl _ _ _⟩,(Wt.below _ F).trans (Wt.grown U (.inl (by rw[v];rfl)))⟩⟩
    generalize ({ D with E:=fun j=>if j=N[i].1 then some { e with pos:=a } else D.E j }:DS)=D2 at *;generalize g.B N[i].1=q at *;obtain⟨R,Q⟩:=K;go_enter func181,ntmps181
    go_upto_region 8 with (first
     |(go_at_call 219;refine hF.mono ?_;rintro y H ⟨rfl,l⟩)
     |(go_at_call 254;refine(s _ l).mono ?_;rintro y m ⟨rfl,o⟩;subst m))
    obtain⟨⟨u,c1⟩,z1,Z⟩:=A _ l;go_wp2_with fail
    go_ret;exact⟨rfl,Z⟩
   ·rw[if_neg K] at d;rw[G (by rw[d];decide),d];have p:∀k,Below w.heap.size w k->dE w k f D g b N:=fun k B=>h.same t B;generalize g.B N[i].1=q at *;by_cases R:a<0
    ·clear K;go_enter func181,ntmps181
     go_wp2_with (first
      |(go_at_call 219;refine hF.mono ?_;rintro y H ⟨rfl,l⟩)
      |(go_at_call 254;refine(s _ l).mono ?_;rintro y m ⟨rfl,o⟩;subst m))
     go_ret;exact⟨rfl,p _ l⟩
    ·have Q:200<a:=by omega
     go_enter func181,ntmps181
     go_wp2_with (first
      |(go_at_call 219;refine hF.mono ?_;rintro y H ⟨rfl,l⟩)
      |(go_at_call 254;refine(s _ l).mono ?_;rintro y m ⟨rfl,o⟩;subst m))
     go_ret;exact⟨rfl,p _ l⟩
  ·rw[if_pos J] at d;rw[G (by rw[d];decide),d];have P:(e.kind==1)=false:=by simpa using J
   rw[P] at s;have p:∀k,Below w.heap.size w k->dE w k f D g b N:=fun k B=>h.same t B;generalize g.B N[i].1=q at *;go_enter func181,ntmps181
   go_wp2_with (first
    |(go_at_call 219;refine hF.mono ?_;rintro y H ⟨rfl,l⟩)
    |(go_at_call 254;refine(s _ l).mono ?_;rintro y m ⟨rfl,o⟩;subst m))
   go_ret;exact⟨rfl,p _ l⟩
 ·have O:aJ N x=false:=by simpa using I
  have d:kg D N x a=7:=if_neg I;rw[show kr D N x a=D from if_neg (by rw[d];decide),d];have hF:=h.j4 t x O;have p:∀k,Below w.heap.size w k->dE w k f D g b N:=fun k B=>h.same t B;go_enter func181,ntmps181
  go_wp2_with (go_at_call 219;refine hF.mono ?_;rintro y H ⟨rfl,l⟩)
  go_ret;exact⟨rfl,p _ l⟩
end
structure Inv (D:DS) (Ts:List Ns) (k:Nat):Prop where
 core:mW D (fun d=>jv d Ts) k
 tab:∀N∈Ts,N.length=8/\∀x∈N,0<=x.1/\(x.1=0->x.2=false)
 few:Ts.length<=500
def yN(D:DS)(N:Ns):Prop:=∀i (hi:i<N.length),0<N[i].1->∃e c,D.E N[i].1=some e/\D.R N[i].1=some c/\0<=c/\c<100000
section
variable {D:DS}{Ts:List Ns}{k j i:Nat}{d:Int}{e:En}
theorem yN.live{N:Ns}(h:yN D N):Live D N:=fun i a d=>by
 obtain⟨e,c,b,_⟩:=h i a d;rw[b];rfl
theorem Inv.more(h:Inv D Ts k){k':Nat}(a:k<=k'):Inv D Ts k':=⟨h.core.more a,h.tab,h.few⟩
theorem Inv.len(h:Inv D Ts k)(a:j<Ts.length):Ts[j].length=8:=(h.tab _ (getElem_mem a)).1
theorem Inv.LB(h:Inv D Ts k)(d:Int):jv d Ts<=4000:=by
 have:=MW d Ts (fun N a=>(h.tab N a).1);have:=h.few;omega
theorem Inv.cl(h:Inv D Ts k)(a:j<Ts.length)(b:i<Ts[j].length)(c:0<Ts[j][i].1):∃e,Cl D Ts[j][i].1 e (jv Ts[j][i].1 Ts):=
 h.core.cl c (fK a b) (by have:=h.LB Ts[j][i].1;omega)
theorem Inv.LC(h:Inv D Ts k)(a:j<Ts.length):yN D Ts[j]:=fun i b d=>by
 obtain⟨e,c⟩:=h.cl a b d;exact⟨e,_,c.gz,c.cnt,by omega,c.c1⟩
theorem Inv.live(h:Inv D Ts k)(a:j<Ts.length):Live D Ts[j]:=(h.LC a).live
theorem uG{P:Ns->Prop}{b:Ns}(h:∀N∈Ts,P N)(d:P b):∀N∈Ts.set j b,P N:=fun N c=>by
 rcases List.mem_or_eq_of_mem_set c with a|a
 ·exact h N a
 ·rw[a];exact d
theorem uJ{N:Ns}(h:N.length=8/\∀x∈N,0<=x.1/\(x.1=0->x.2=false))(y:Int×Bool)(b:0<=y.1/\(y.1=0->y.2=false)):(N.set i y).length=8/\∀x∈N.set i y,0<=x.1/\(x.1=0->x.2=false):=by
 refine⟨by rw[length_set];exact h.1,fun x c=>?_⟩;rcases List.mem_or_eq_of_mem_set c with a|a
 ·exact h.2 x a
 ·rw[a];exact b
theorem Inv.close(h:Inv D Ts k)(e:k<=900)(c:j<Ts.length)(d:i<Ts[j].length)(f:0<Ts[j][i].1):Inv (aT D Ts[j][i].1) (Ts.set j (Ts[j].set i (0,false))) k:=by
 have m:=h.LB Ts[j][i].1;refine⟨(h.core.close e f (fK c d) (by omega)).congr (fun x g=>?_),uG h.tab (uJ (h.tab _ (getElem_mem c)) _ ⟨by simp,fun _=>rfl⟩),by rw[length_set];exact h.few⟩;have b:=qL c d x (0,false);have l:=fK c d;simp only at b ⊢;rw[if_neg (show ¬(0:Int)=x by omega)] at b;by_cases a:x=Ts[j][i].1
 ·rw[if_pos a];rw[if_pos a.symm] at b;rw[<-a];omega
 ·rw[if_neg a];rw[if_neg (fun z=>a z.symm)] at b;omega
theorem Inv.dup(h:Inv D Ts k)(e:j<Ts.length)(f:i<Ts[j].length)(m:Ts[j][i].1=0)(g:0<d)(l:0<jv d Ts)(c:Bool):Inv (jq D d) (Ts.set j (Ts[j].set i (d,c))) k:=by
 refine⟨(h.core.inc g l).congr (fun x n=>?_),uG h.tab (uJ (h.tab _ (getElem_mem e)) _ ⟨by simp;omega,fun z=>by simp at z;omega⟩),by rw[length_set];exact h.few⟩;have a:=qL e f x (d,c);simp only at a ⊢;rw[m,if_neg (show ¬(0:Int)=x by omega)] at a;by_cases b:x=d
 ·subst b;rw[if_pos rfl] at a ⊢;omega
 ·rw[if_neg b];rw[if_neg (fun z=>b z.symm)] at a;omega
theorem Inv.dup2(h:Inv D Ts k)(q:k<=900)(m:j<Ts.length)(n:i<Ts[j].length)(p:0<Ts[j][i].1)(r:0<d)(s:0<jv d Ts):Inv (aT (jq D d) Ts[j][i].1) (Ts.set j (Ts[j].set i (d,false))) k/\∃e c,Cl (jq D d) Ts[j][i].1 e c:=by
 have o:=h.core.inc r s;have v:=fK m n;have w:=h.LB Ts[j][i].1;have l:(if Ts[j][i].1=d then jv d Ts+1 else jv Ts[j][i].1 Ts)<100000:=by
  by_cases a:Ts[j][i].1=d
  ·rw[if_pos a,<-a];omega
  ·rw[if_neg a];omega
 have g:0<(if Ts[j][i].1=d then jv d Ts+1 else jv Ts[j][i].1 Ts):=by
  by_cases a:Ts[j][i].1=d
  ·rw[if_pos a];omega
  ·rw[if_neg a];omega
 obtain⟨e,t⟩:=o.cl p g l;refine⟨⟨(o.close q p g l).congr (fun x u=>?_),uG h.tab (uJ (h.tab _ (getElem_mem m)) _ ⟨by simp;omega,fun z=>by simp at z;omega⟩),by rw[length_set];exact h.few⟩,e,_,t⟩;have b:=qL m n x (d,false);simp only at b ⊢;by_cases a:x=Ts[j][i].1
 ·rw[if_pos a];rw[if_pos a.symm] at b;rw[<-a];by_cases f:x=d
  ·subst f;rw[if_pos rfl] at b ⊢;omega
  ·rw[if_neg f];rw[if_neg (fun z=>f z.symm)] at b;omega
 ·rw[if_neg a];rw[if_neg (fun z=>a z.symm)] at b;by_cases f:x=d
  ·subst f;rw[if_pos rfl] at b ⊢;omega
  ·rw[if_neg f];rw[if_neg (fun z=>f z.symm)] at b;omega
theorem Inv.mark(h:Inv D Ts k)(a:j<Ts.length)(x:Int)(c:Bool):Inv D (Ts.set j (kR Ts[j] x c)) k:=by
 unfold kR;split
 ·rename_i b
  obtain⟨i,rfl,f,d,g⟩:=dU b (h.len a);rw[getD_in d,show (i:Int).toNat=i by omega];refine⟨h.core.congr (fun x b=>?_),uG h.tab (uJ (h.tab _ (getElem_mem a)) _ ⟨by simp;omega,fun z=>by simp at z;omega⟩),by rw[length_set];exact h.few⟩;have e:=qL a d x (Ts[j][i].1,c);simp only at e ⊢;omega
 ·rw[List.set_getElem_self];exact h
theorem Inv.QS(h:Inv D Ts k)(m:D.E d=some e){f:En}(g:DD D f):Inv { D with E:=fun i=>if i=d then some f else D.E i } Ts k:=by
 have j:∀x,(if x=d then some f else D.E x).isSome=(D.E x).isSome:=fun x=>by
  by_cases b:x=d
  ·rw[if_pos b,b,m];rfl
  ·rw[if_neg b]
 refine⟨⟨⟨h.core.jW.n0,h.core.jW.n1,fun x c=>h.core.jW.e x (by rw[<-j];exact c),h.core.jW.r,h.core.jW.p⟩,h.core.lv,h.core.sm,fun x l c=>?_,fun x c=>by show (if x=d then some f else D.E x).isSome=true↔_;rw[j];exact h.core.cE x c,h.core.cR⟩,h.tab,h.few⟩;have a:(if x=d then some f else D.E x)=some l:=c;by_cases b:x=d
 ·rw[if_pos b] at a;obtain rfl:=Option.some.inj a;exact g.same (Int.le_refl _) rfl
 ·rw[if_neg b] at a;exact(h.core.gz x l a).same (Int.le_refl _) rfl
theorem Inv.dC(h:Inv D Ts k){p:Int}{x y:Pi}(o:D.P p=some x)(l:y.1.length<=16/\0<=y.2.1/\y.2.1<1000/\0<=y.2.2/\y.2.2<1000):Inv { D with P:=fun i=>if i=p then some y else D.P i } Ts k:=by
 refine⟨⟨⟨h.core.jW.n0,h.core.jW.n1,h.core.jW.e,h.core.jW.r,fun q n=>?_⟩,h.core.lv,h.core.sm,fun q s m=>(h.core.gz q s m).keep (Int.le_refl _) (fun r z a b c d e f=>?_),h.core.cE,h.core.cR⟩,h.tab,h.few⟩
 ·have g:(if q=p then some y else D.P q).isSome=true:=n;by_cases j:q=p
  ·rw[j];exact h.core.jW.p p (by rw[o];rfl)
  ·rw[if_neg j] at g;exact h.core.jW.p q g
 ·by_cases j:r=p
  ·exact⟨y,if_pos j,l⟩
  ·exact⟨z,(if_neg j).trans a,b,c,d,e,f⟩
theorem Inv.Nj(h:Inv D Ts k){T':Wd}{k':Nat}(c:bu T')(b:Sm k' T'):Inv { D with T:=T' } Ts k':=
 ⟨⟨⟨h.core.jW.n0,h.core.jW.n1,h.core.jW.e,h.core.jW.r,h.core.jW.p⟩,c,b,fun q d a=>(h.core.gz q d a).same (Int.le_refl _) rfl,h.core.cE,h.core.cR⟩,h.tab,h.few⟩
theorem Inv.unlink(h:Inv D Ts k)(p:List UInt8):Inv { D with T:=fC D.T p } Ts (k+1):=h.Nj (h.core.lv.unlink p) (h.core.sm.unlink p)
theorem Inv.add(h:Inv D Ts k)(s:D.nx<4999)(n:j<Ts.length)(A:¬ai Ts[j]<0)(l:DD (jL D e) e):Inv (jL D e) (Ts.set j (addN D Ts[j])) k:=by
 have g:=h.core.jW;obtain⟨p,y,w⟩:=g.new;rcases mg (N:=Ts[j]) with r|⟨i,t,v,m⟩
 ·omega
 have u:addN D Ts[j]=Ts[j].set i (D.nx+1,false):=by unfold addN;rw[t,show (i:Int).toNat=i by omega]
 have B:=g.n0;have q:jv (D.nx+1) Ts=0:=by
  have:=h.core.cE (D.nx+1) (by omega);rw[p] at this;simp at this;exact this
 rw[u];have d:∀x,0<x->jv x (Ts.set j (Ts[j].set i (D.nx+1,false)))=if x=D.nx+1 then 1 else jv x Ts:=fun x c=>by
  have f:=qL n v x (D.nx+1,false);simp only at f;rw[m,if_neg (show ¬(0:Int)=x by omega)] at f;by_cases a:x=D.nx+1
  ·rw[if_pos a];rw[if_pos a.symm,a,q] at f;rw[a];omega
  ·rw[if_neg a];rw[if_neg (fun z=>a z.symm)] at f;omega
 refine⟨⟨g.add s e,h.core.lv,h.core.sm,fun x o c=>?_,fun x c=>?_,fun x c=>?_⟩,uG h.tab (uJ (h.tab _ (getElem_mem n)) _ ⟨by simp;omega,fun z=>by simp at z;omega⟩),by rw[length_set];exact h.few⟩
 ·have b:(if x=D.nx+1 then some e else D.E x)=some o:=c;by_cases a:x=D.nx+1
  ·rw[if_pos a] at b;obtain rfl:=Option.some.inj b;exact l
  ·rw[if_neg a] at b;exact(h.core.gz x o b).same (by show D.nx<=D.nx+1;omega) rfl
 ·show (if x=D.nx+1 then some e else D.E x).isSome=true↔_;rw[d x c];by_cases a:x=D.nx+1
  ·rw[if_pos a,if_pos a];simp
  ·rw[if_neg a,if_neg a];exact h.core.cE x c
 ·show (if x=D.nx+1 then some 1 else D.R x)=_;rw[d x c];by_cases a:x=D.nx+1
  ·simp[a]
  ·rw[if_neg a,if_neg a,h.core.cR x c]
theorem oF{Ts:List Ns}{j:Nat}(_:j<Ts.length)(a:Ns)(h:j<(Ts.set j a).length):(Ts.set j a)[j]=a:=List.getElem_set_self h
theorem Gh(Ts:List Ns)(j:Nat)(a b:Ns):(Ts.set j a).set j b=Ts.set j b:=set_set _
theorem Inv.lu(h:Inv D Ts k)(a:j<Ts.length):Inv D (Ts.set j Ts[j]) k:=by rw[List.set_getElem_self];exact h
theorem Inv.file{n s:Nat}{p:List UInt8}{l:Int}{mk:Bool}{x c:Int}{D':DS}{B:Ns}(h:Inv D Ts k)(I:k<=890)(E:D.nx<4999)(A:j<Ts.length)(C:dD D.T s)(hF:iM D Ts[j] n s p l mk x c D' B):Inv D' (Ts.set j B) (k+2):=by
 have a:=h.core.lv;have d:∀f m,bu f->Sm (k+2) f->1<=l/\l<=3->0<=m->m<1000->roomy Ts[j] n->Inv (jL { D with T:=f } ⟨1,l,m,0,0⟩) (Ts.set j (addN D Ts[j])) (k+2):=fun f m v w g G F o=>
  (h.Nj (T':=f) v w).add (D:={ D with T:=f }) (e:=⟨1,l,m,0,0⟩) E A o.1 ⟨.inl rfl,fun _=>⟨g.1,g.2,G,F,by simp,by simp⟩,fun z=>by simp at z,fun z=>by simp at z,fun z=>absurd rfl z⟩
 cases hF with
 |opened g o hE hh=>
  have t:=a.key _ (mH a.toTrOk hE);exact d _ _ (a.hold _ (.inl rfl) (fun b x u=>by have:=(h.core.sm.2 _ b x u).1;omega)) ((h.core.sm.hold _ 1 (by omega)).more (by omega)) g t.1 (by omega) o
 |made g o hE hm hM z hz=>
  have y:z<64:=by
   have q:=rF a.toTrOk hM hz;have H:=(mF a.toTrOk hM).2.2.2;have K:=C.free (k:=z.toNat) (fun i J=>hz.least i (by omega) (by have:=hz.pos;omega));have:=hz.pos;omega
  have r:=a.make hM hz y false;have q:=rF a.toTrOk hM hz;exact d _ _ (r.hold _ (.inl rfl) (fun b x u=>by have:=q.2 b x u;omega)) ((h.core.sm.make p false z).hold _ 1 (by omega)) g hz.pos (by omega) o
 |_=>exact(h.lu A).more (by omega)
end
section
variable {w w' w2:World}{f b n:Nat}{D D':DS}{g g':QG}{M N N':Ns}{d k:Int}{e:En}
theorem QF.yw(h:QF w f D g n)(t:dK w b g M N){i:Nat}(s:i<8)(r:g.K k=some d)(v:0<d)(u:D.E d=some e){c:Int}(m:D.R d=some c)(l:0<=c)(j:c<100000):Calls prog 224 #[wp f,wp b,.int .i64 (i:Int),.int .i64 k] w fun x a=>x=.returned (.tuple #[])/\QF a f (jq D d) g n/\dK a b g (M.set i (k,false)) (N.set i (d,false))/\dE w a f (jq D d) g b (N.set i (d,false)):=by
 rw[MK m];refine(h.Eu t s r v u m l j).mono ?_;rintro x a ⟨rfl,p,o,q⟩;exact⟨rfl,p,o,⟨g,n,_,p,o,Ext.refl _ _ _⟩,q⟩
theorem UI(a:jH N k=0):lM D N k=jq D (N.getD k.toNat (0,false)).1:=if_pos a
theorem QF.aa4(h:QF w f D g n)(t:dK w b g M N)(x:Int)(W:yN D N):Calls prog 152 #[wp f,wp b,.int .i64 x] w fun y d=>y=.returned (.tuple #[.int .i64 (jr N x),aI (jH N x)])/\dE w d f (lM D N x) g b (lL N x):=by
 have J:∀d,Below w.heap.size w d->dE w d f D g b N:=fun d T=>h.same t T;have l:∀V,Below w.heap.size w V->Calls prog 223 #[wp b] V fun y d=>y=.returned (.tuple #[.int .i64 (ai N),.bool (decide (0<=ai N))])/\Below w.heap.size w d:=fun V k=>by
  refine((t.below k).mf (h.below k)).mono ?_;rintro y d ⟨rfl,p⟩;exact⟨rfl,k.trans (p.mono k.size)⟩
 by_cases r:aJ N x=true
 ·obtain⟨i,rfl,K,z,A⟩:=dU r t.len;have hF:=h.ay t K z A;obtain⟨e,c,R,S,F,E⟩:=W i z A;have U:i<M.length:=by have:=t.tab.len;omega
  have O:=t.keyOf U z A;rcases mg (N:=N) with m|⟨j,m,Lg,P⟩
  ·have a:jH N i=12:=by unfold jH;rw[if_pos r,m];rfl
   have v:lM D N i=D:=by unfold lM;rw[if_neg (by rw[a];decide)]
   have u:lL N i=N:=by unfold lL;rw[if_neg (by rw[a];decide)]
   have s:jr N i=0:=by unfold jr;rw[if_neg (by rw[a];decide)]
   rw[a,v,u,s];rw[m] at l;generalize g.B N[i].1=q at *;go_enter func152,ntmps152
   go_wp2_with (first
    |(go_at_call 219;refine hF.mono ?_;rintro y I ⟨rfl,p⟩)
    |(go_at_call 223;refine(l _ p).mono ?_;rintro y L ⟨rfl,H⟩))
   go_ret2;exact⟨rfl,J _ H⟩
  ·have C:j<8:=by have:=t.len;omega
   have a:jH N i=0:=by unfold jH;rw[if_pos r,m,if_neg (by omega)]
   have v:lM D N i=jq D N[i].1:=by rw[UI a,getD_in z]
   have u:lL N i=N.set j (N[i].1,false):=by unfold lL;rw[if_pos a,getD_in z,m,show (j:Int).toNat=j by omega]
   have s:jr N i=j:=by unfold jr;rw[if_pos a,m]
   rw[a,v,u,s];rw[m,show decide ((0:Int)<=(j:Int))=true by simp] at l;have o:∀V,Below w.heap.size w V->V.cell? ⟨b,i*2,none⟩=some (.int .i64 M[i].1)/\Calls prog 224 #[wp f,wp b,.int .i64 (j:Int),.int .i64 M[i].1] V fun x d=>x=.returned (.tuple #[])/\dE w d f (jq D N[i].1) g b (N.set j (N[i].1,false)):=fun V k=>by
    refine⟨((t.below k).tab.at K).1,((h.below k).yw (t.below k) C O A R S F E).mono ?_⟩;rintro x d ⟨rfl,_,_,G⟩;exact⟨rfl,G.upon k⟩
   generalize jq D N[i].1=D2 at *;generalize N.set j (N[i].1,false)=N2 at *;generalize g.B N[i].1=q at *;generalize M[i].1=X at *;have Q:(i:Int)<8:=by omega
   go_enter func152,ntmps152
   go_upto_region 7 with (first
    |(go_at_call 219;refine hF.mono ?_;rintro y I ⟨rfl,p⟩)
    |(go_at_call 223;refine(l _ p).mono ?_;rintro y L ⟨rfl,H⟩))
   obtain⟨c0,Y⟩:=o _ H;go_wp2_with (go_at_call 224;refine Y.mono ?_;rintro y Z ⟨rfl,G⟩)
   go_ret2;exact⟨rfl,G⟩
 ·have B:aJ N x=false:=by simpa using r
  have a:jH N x=7:=if_neg r;have v:lM D N x=D:=by unfold lM;rw[if_neg (by rw[a];decide)]
  have u:lL N x=N:=by unfold lL;rw[if_neg (by rw[a];decide)]
  have s:jr N x=0:=by unfold jr;rw[if_neg (by rw[a];decide)]
  rw[a,v,u,s];have hF:=h.j4 t x B;go_enter func152,ntmps152
  go_wp2_with (go_at_call 219;refine hF.mono ?_;rintro y I ⟨rfl,p⟩)
  go_ret2;exact⟨rfl,J _ p⟩
theorem QF.EB(h:QF w f D g n)(t:dK w b g M N)(x y:Int)(c:aJ N x=false):Calls prog 156 #[wp f,wp b,.int .i64 x,.int .i64 y] w fun z a=>z=.returned (eF 7)/\dE w a f D g b N:=by
 have hF:=h.j4 t x c;have d:∀a,Below w.heap.size w a->dE w a f D g b N:=fun a e=>h.same t e;go_enter func156,ntmps156
 go_wp2_with (go_at_call 219;refine hF.mono ?_;rintro y j ⟨rfl,i⟩)
 go_ret;exact⟨rfl,d _ i⟩
theorem QF.KT(h:QF w f D g n)(t:dK w b g M N)(x y:Int)(m:aJ N x=true)(l:¬(0<=y/\y<=7)):Calls prog 156 #[wp f,wp b,.int .i64 x,.int .i64 y] w fun z a=>z=.returned (eF 2)/\dE w a f D g b N:=by
 obtain⟨i,rfl,o,s,r⟩:=dU m t.len;have hF:=h.ay t o s r;have d:∀a,Below w.heap.size w a->dE w a f D g b N:=fun a p=>h.same t p;generalize g.B N[i].1=q at *;by_cases k:y<0
 ·clear l;go_enter func156,ntmps156
  go_wp2_with (go_at_call 219;refine hF.mono ?_;rintro y e ⟨rfl,c⟩)
  go_ret;exact⟨rfl,d _ c⟩
 ·have j:8<=y:=by omega
  go_enter func156,ntmps156
  go_wp2_with (go_at_call 219;refine hF.mono ?_;rintro y e ⟨rfl,c⟩)
  go_ret;exact⟨rfl,d _ c⟩
theorem QF.P8(h:QF w f D g n)(t:dK w b g M N)(x:Int)(c:aJ N x=true):Calls prog 156 #[wp f,wp b,.int .i64 x,.int .i64 x] w fun z a=>z=.returned .nilIface/\dE w a f D g b N:=by
 obtain⟨i,rfl,j,o,l⟩:=dU c t.len;have hF:=h.ay t j o l;have d:∀a,Below w.heap.size w a->dE w a f D g b N:=fun a k=>h.same t k;generalize g.B N[i].1=q at *;have e:(i:Int)<8:=by omega
 go_enter func156,ntmps156
 go_wp2_with (go_at_call 219;refine hF.mono ?_;rintro y p ⟨rfl,m⟩)
 go_ret;exact⟨rfl,d _ m⟩
theorem QF.X3(h:QF w f D g n)(t:dK w b g M N){i j:Nat}(I:i<8)(H:j<8)(F:i<N.length)(L:j<N.length)(T:i≠j)(o:0<N[i].1)(hC:yN D N){D2:DS}
 (C:(N[j].1=0/\D2=jq D N[i].1)\/(0<N[j].1/\D2=aT (jq D N[i].1) N[j].1/\(∃e c,Cl (jq D N[i].1) N[j].1 e c))) (U:Live D2 (N.set j (N[i].1,false))) :
 Calls prog 156 #[wp f,wp b,.int .i64 (i:Int),.int .i64 (j:Int)] w fun z m=>z=.returned .nilIface/\dE w m f D2 g b (N.set j (N[i].1,false)):=by
 have hF:=h.ay t I F o;obtain⟨e,c,he,hc,A,v⟩:=hC i F o;have hM:i<M.length:=by have:=t.tab.len;omega
 have k:j<M.length:=by have:=t.tab.len;omega
 have W:=t.keyOf hM F o;have a:∀V,Below w.heap.size w V->V.cell? ⟨b,i*2,none⟩=some (.int .i64 M[i].1)/\V.cell? ⟨b,j*2,none⟩=some (.int .i64 M[j].1)/\Calls prog 224 #[wp f,wp b,.int .i64 (j:Int),.int .i64 M[i].1] V fun x m=>x=.returned (.tuple #[])/\Calls prog 225 #[wp f,.int .i64 M[j].1] m fun y s=>y=.returned (.tuple #[])/\dE w s f D2 g b (N.set j (N[i].1,false)):=fun V d=>by
  refine⟨((t.below d).tab.at I).1,((t.below d).tab.at H).1,((h.below d).yw (t.below d) H W o he hc A v).mono ?_⟩;rintro x m ⟨rfl,K,J,l⟩;refine⟨rfl,?_⟩;rcases C with⟨r,rfl⟩|⟨r,rfl,e2,c2,u⟩
  ·have Q:=(t.pos h j k L).2.2 r;rw[Q];refine K.Ko.mono ?_;rintro y s ⟨rfl,rfl⟩;exact⟨rfl,l.upon d⟩
  ·refine(K.GH (t.keyOf k L r) u).mono ?_;rintro y s ⟨rfl,⟨g',P,E,p⟩,O⟩;have R:=l.wt.size;have S:=d.size;refine⟨rfl,⟨⟨g',P,_,E,J.other p (O.block b J.tab.lt (by rw[t.off];simp)) U,⟨fun x G=>p.dA x (by omega),p.key,p.r⟩⟩,(Wt.below _ d).trans (l.wt.trans (O.mono (fun x G=>.inl G)))⟩⟩
 generalize N.set j (N[i].1,false)=N2 at *;generalize g.B N[i].1=q at *;generalize M[i].1=X at *;generalize M[j].1=Y at *;have hi8:(i:Int)<8:=by omega
 have Z:(j:Int)<8:=by omega
 have hij:((i:Int)==(j:Int))=false:=by simp;omega
 go_enter func156,ntmps156
 go_upto_region 8 with (go_at_call 219;refine hF.mono ?_;rintro y w1 ⟨rfl,E⟩)
 obtain⟨c0,c1,Zr⟩:=a _ E;go_wp2_with (first
  |(go_at_call 224;refine Zr.mono ?_;rintro y w3 ⟨rfl,B⟩)
  |(go_at_call 225;refine B.mono ?_;rintro y w4 ⟨rfl,l⟩))
 go_ret;exact⟨rfl,l⟩
end
def jf(D:DS)(N:Ns):DS:=N.foldl (fun D x=>if 0<x.1 then jq D x.1 else D) D
noncomputable def ah(all:Bool)(D:DS)(N:Ns):Nat->DS×Ns
 |0=>(D,N)
 |i+1=>if 0<(N.getD i (0,false)).1/\(all=true\/(N.getD i (0,false)).2=true) then (aT (ah all D N i).1 (N.getD i (0,false)).1,(ah all D N i).2.set i (0,false)) else ah all D N i
section
variable {D:DS}{Ts:List Ns}{k j i:Nat}{d:Int}{e:En}
theorem Inv.ZB(h:Inv D Ts k)(g:j<Ts.length)(x a:Int):Inv (kr D Ts[j] x a) Ts k:=by
 unfold kr;split
 ·rename_i c
  unfold kg at c;split at c
  ·cases he:D.E (Ts[j].getD x.toNat (0,false)).1 with
   |none=>exact h
   |some e=>
    rw[he] at c;simp only at c ⊢;have b:=h.core.gz _ e he;by_cases d:e.kind=1
    ·rw[if_neg (fun z=>z d)] at c;by_cases f:0<=a/\a<=200
     ·refine h.QS he ⟨b.kind,fun d=>?_,b.aR,b.into,b.pipe⟩;have:=b.file d;exact⟨this.1,this.2.1,this.2.2.1,this.2.2.2.1,f.1,f.2⟩
     ·rw[if_neg f] at c;omega
    ·rw[if_pos d] at c;omega
  ·omega
 ·exact h
theorem Co{T:Wd}{x a c:Int}(d:Sm k T)(g:0<=a)(f:a<=200):a+(eG T x a c).length<=200:=by
 unfold eG;split
 ·rename_i b y e
  have:=(d.2 x b y e).2;split
  ·simp;omega
  ·rw[length_take,List.length_drop];omega
 ·simp;omega
theorem Inv.read(h:Inv D Ts k)(s:j<Ts.length)(x a:Int):Inv (bR D Ts[j] x a).2.2 Ts k:=by
 unfold bR;split
 ·split
  ·exact h
  ·rename_i e l
   have b:=h.core.gz _ e l;split
   ·exact h
   ·split
    ·rename_i d
     refine h.QS l ⟨b.kind,fun d=>?_,b.aR,b.into,b.pipe⟩;obtain⟨o,n,f,m,i,g⟩:=b.file d;have:=Co (x:=e.node) (c:=a) h.core.sm i g;exact⟨o,n,f,m,by simp only;omega,this⟩
    ·rename_i d
     obtain⟨o,n,p,f,m,i,g,r,q⟩:=b.pipe d;rw[f];exact h.dC f ⟨by simp;omega,i,g,r,q⟩
 ·exact h
theorem JO{T:Wd}{x a:Int}{s:List UInt8}(h:cZ T x a s=0):a+s.length<=200:=by
 unfold cZ at h;split at h
 ·omega
 ·split at h
  ·omega
  ·split at h
   ·omega
   ·omega
theorem Inv.write(h:Inv D Ts k)(v:j<Ts.length)(x:Int)(s:List UInt8)(a:Int):Inv (bZ D Ts[j] x s a).2.2 Ts (k+1):=by
 have c:=h.more (le_succ k);unfold bZ;split
 ·split
  ·exact c
  ·rename_i e l
   have b:=h.core.gz _ e l;split
   ·exact c
   ·split
    ·rename_i d
     split
     ·exact c
     ·split
      ·exact c
      ·rename_i w
       have g:cZ D.T e.node e.pos s=0:=by omega
       have r:=h.Nj (h.core.lv.write e.node e.pos s) (h.core.sm.write e.node e.pos s);refine r.QS (D:={ D with T:=fU D.T e.node e.pos s }) l ⟨b.kind,fun d=>?_,b.aR,b.into,b.pipe⟩;obtain⟨q,o,f,i,n,m⟩:=b.file d;have:=JO g;exact⟨q,o,f,i,by simp only;omega,this⟩
    ·rename_i d
     obtain⟨q,o,p,f,i,n,m,u,t⟩:=b.pipe d;rw[f];exact c.dC f ⟨VL _ _ _ i,n,m,u,t⟩
 ·exact c
theorem Inv.afK(h:Inv D Ts k)(b:j<Ts.length)(x:Int):Inv (lM D Ts[j] x) (Ts.set j (lL Ts[j] x)) k:=by
 by_cases a:jH Ts[j] x=0
 ·have f:aJ Ts[j] x=true:=by
   unfold jH at a;by_cases c:aJ Ts[j] x=true
   ·exact c
   ·rw[if_neg c] at a;omega
  obtain⟨i,rfl,p,l,n⟩:=dU f (h.len b);unfold jH at a;rw[if_pos f] at a;rcases mg (N:=Ts[j]) with g|⟨y,g,d,e⟩
  ·rw[g] at a;simp at a
  have m:jH Ts[j] i=0:=by unfold jH;rw[if_pos f];exact a
  have c:lM D Ts[j] i=jq D Ts[j][i].1:=by unfold lM;rw[if_pos m,getD_in l];rfl
  have o:lL Ts[j] i=Ts[j].set y (Ts[j][i].1,false):=by unfold lL;rw[if_pos m,getD_in l,g,show (y:Int).toNat=y by omega]
  rw[c,o];exact h.dup b d e n (fK b l) false
 ·rw[show lM D Ts[j] x=D from if_neg a,show lL Ts[j] x=Ts[j] from if_neg a];exact h.lu b
theorem Inv.pipe(h:Inv D Ts k)(E:D.nx<4990)(q:j<Ts.length)(o:¬ai Ts[j]<0)(n:¬ai (dI D Ts[j])<0):Inv (xg D) (Ts.set j (BH D Ts[j])) k:=by
 have g:=h.core.jW;obtain⟨t,B,s⟩:=g.new;have F:=g.n0;have C:jv (D.nx+1) Ts=0:=by
  have:=h.core.cE (D.nx+1) (by omega);rw[t] at this;simp at this;exact this
 have w:Inv (lV D) Ts k:=by
  refine⟨⟨g.ac2 (by omega),h.core.lv,h.core.sm,fun x A u=>(h.core.gz x A u).keep (by show D.nx<=D.nx+1;omega) (fun p y a b c d e f=>?_),h.core.cE,h.core.cR⟩,h.tab,h.few⟩;have:p≠D.nx+1:=fun e=>by rw[e,s] at a;cases a
  exact⟨y,(if_neg this).trans a,b,c,d,e,f⟩
 have m:(lV D).P (D.nx+1)=some ([],1,1):=if_pos rfl;have v:Inv (qA D) (Ts.set j (dI D Ts[j])) k:=w.add (D:=lV D) (e:=⟨2,1,0,D.nx+1,0⟩) (by show D.nx+1<4999;omega) q o ⟨.inr (.inl rfl),fun z=>by simp at z,fun _=>rfl,fun z=>by simp at z,fun _=>⟨by simp only;omega,by show D.nx+1<=D.nx+1+1;omega,_,m,by simp,by simp,by simp,by simp,by simp⟩⟩;have i:j<(Ts.set j (dI D Ts[j])).length:=by rw[length_set];exact q
 have l:=oF q (dI D Ts[j]) i;have r:=v.add (D:=qA D) (j:=j) (e:=⟨3,2,0,D.nx+1,0⟩) (by show D.nx+1+1<4999;omega) i (by rw[l];exact n) ⟨.inr (.inr rfl),fun z=>by simp at z,fun z=>by simp at z,fun _=>rfl,fun _=>⟨by simp only;omega,by show D.nx+1<=D.nx+1+1+1;omega,_,m,by simp,by simp,by simp,by simp,by simp⟩⟩;rw[l,Gh] at r;exact r
theorem mW.fork:∀(l:Ns) {D:DS}{C:Int->Nat},mW D C k->(∀x∈l,0<x.1->0<C x.1)->mW (jf D l) (fun d=>C d+sF d l) k
 | [],D,C,h,_=>h.congr (fun d _=>by simp[sF])
 |x::l,D,C,h,hl=>by
  unfold jf;rw[List.foldl_cons];by_cases a:0<x.1
  ·rw[if_pos a];refine(mW.fork l (h.inc a (hl x mem_cons_self a)) (fun y b c=>?_)).congr (fun d f=>?_)
   ·show 0<(if y.1=x.1 then C x.1+1 else C y.1);split
    ·omega
    ·exact hl y (List.mem_cons_of_mem _ b) c
   ·simp only[sF,filter_cons];by_cases e:d=x.1
    ·simp[e];omega
    ·simp[e,Ne.symm e]
  ·rw[if_neg a];refine(mW.fork l h (fun y b c=>hl y (List.mem_cons_of_mem _ b) c)).congr (fun d f=>?_);simp only[sF,filter_cons];rw[if_neg (by simp;omega)]
theorem Inv.fork(h:Inv D Ts k)(g:Ts.length<500)(b:j<Ts.length):Inv (jf D Ts[j]) (Ts++[Ts[j]]) k:=by
 refine⟨(mW.fork Ts[j] h.core (fun x c m=>?_)).congr (fun d l=>?_),fun N f=>?_,by rw[List.length_append];simp;omega⟩
 ·obtain⟨i,e,rfl⟩:=getElem_of_mem c;exact fK b e
 ·simp[jv]
 ·rcases List.mem_append.1 f with a|a
  ·exact h.tab N a
  ·rw[List.mem_singleton.1 a];exact h.tab _ (getElem_mem b)
theorem iD(all:Bool)(D:DS)(N:Ns):∀i,(ah all D N i).2.length=N.length/\∀x,i<=x->(ah all D N i).2[x]? = N[x]?
 |0=>⟨rfl,fun _ _=>rfl⟩
 |i+1=>by
  obtain⟨b,a⟩:=iD all D N i;rw[ah];split
  ·refine⟨by simp only[length_set];exact b,fun x c=>?_⟩;simp only;rw[List.getElem?_set_ne (by omega)];exact a x (by omega)
  ·exact⟨b,fun x c=>a x (by omega)⟩
theorem zL{all:Bool}{N:Ns}{i:Nat}(a:i<N.length)(h:i<(ah all D N i).2.length):(ah all D N i).2[i]=N[i]:=by
 have:=(iD all D N i).2 i (le_refl _);rw[getElem?_eq_getElem h,getElem?_eq_getElem a] at this;exact Option.some.inj this
theorem Inv.free(h:Inv D Ts k)(l:k<=900)(d:j<Ts.length)(all:Bool):∀i,i<=8->Inv (ah all D Ts[j] i).1 (Ts.set j (ah all D Ts[j] i).2) k
 |0,_=>h.lu d
 |i+1,hi=>by
  have g:=Inv.free h l d all i (by omega);rw[ah];split
  ·rename_i m
   have b:i<Ts[j].length:=by rw[h.len d];omega
   have f:i<(ah all D Ts[j] i).2.length:=by rw[(iD all D Ts[j] i).1];exact b
   have c:j<(Ts.set j (ah all D Ts[j] i).2).length:=by rw[length_set];exact d
   have a:=oF d (ah all D Ts[j] i).2 c;have e:(Ts.set j (ah all D Ts[j] i).2)[j][i]'(by rw[a];exact f)=Ts[j][i]:=by
    simp only[a];exact zL b f
   have o:Ts[j].getD i (0,false)=Ts[j][i]:=by rw[List.getD_eq_getElem?_getD,getElem?_eq_getElem b];rfl
   rw[o] at m ⊢;have n:=g.close l c (i:=i) (by rw[a];exact f) (by rw[e];exact m.1);rw[e,a,Gh] at n;exact n
  ·exact g
end
section
variable {w w' w2 w0:World}{f b n q:Nat}{D D':DS}{g g':QG}{M N N':Ns}{d k:Int}{e:En}
theorem QF.afk(h:QF w f D g n){i:Nat}(l:∀j:Nat,1<=j->j<=i->(g.K j).isSome=true):i<=n:=by
 obtain⟨p,_,_,q,o,m⟩:=h.map.data;have c:=lD (a:=(List.range i).map (fun j:Nat=>((j+1:Nat):Int))) (b:=Go.intKeys p) (pairwise_map.2 (List.nodup_range.imp (fun {a b} h e=>h (by omega)))) (fun x d=>by
  obtain⟨j,k,rfl⟩:=mem_map.1 d;have:=List.mem_range.1 k;refine(m _).2 ?_;rw[isSome_map];exact l (j+1) (by omega) (by omega))
 rw[o] at c;simpa using c
theorem TS(D:DS)(e:En):jq (Jc D e) (D.nx+1)=jL D e:=by
 unfold jq Jc jL;congr 1
 funext j;by_cases a:j=D.nx+1
 ·simp[a]
 ·simp[a]
def Nr(w w':World)(f:Nat)(D':DS)(g:QG)(b:Nat)(N':Ns)(n':Nat):Prop:=(∃g' M',QF w' f D' g' n'/\dK w' b g' M' N'/\Ext w D' g g'/\g'.Q=g.Q)/\Wt (fun i=>(g.dA i).isSome=true\/i=b) w w'
theorem Nr.go{d:Nat}(h:Nr w w' f D' g b N' d):dE w w' f D' g b N':=by
 obtain⟨⟨i,j,a,c,x,_⟩,e⟩:=h;exact⟨⟨i,d,j,a,c,x⟩,e⟩
structure AdS (w0 w w2:World) (f b q n:Nat) (g:QG) (D:DS) (N:Ns) (k:Int) (e:En):Prop where
 run:(Instr.mapUpdate 105 (.map (some g.gO)) (.int .i64 k) (wp q)).run prog w=.ok () w2
 least:Calls prog 223 #[wp b] w2 fun y w'=>y=.returned (.tuple #[.int .i64 (ai N),.bool (decide (0<=ai N))])/\Calls prog 224 #[wp f,wp b,.int .i64 (ai N),.int .i64 k] w' fun y w3=>y=.returned (.tuple #[])/\Nr w0 w3 f (jL D e) g b (addN D N) (n+1)
theorem QF.adding(h:QF w0 f D g n)(t:dK w0 b g M N)(r:Below w0.heap.size w0 w)(U:w0.heap.size<=q)(S:w.heap[q]? = some (.cells (kN g e 0) 296))(hE:D.E (D.nx+1)=none)(h0:0<=D.nx)(hl:¬ai N<0)(Y:Live D N)(hn:n<10000)(s:g.K k=none)(v:0<k)(u:k<100000):∃w2,AdS w0 w w2 f b q n g D N k e:=by
 have hB:=h.below r;obtain⟨w2,p,J,C⟩:=hB.map.put Tryz.underlying105 (by unfold maxLen;omega) k (gT (by omega) (by omega)) (wp q);rw[s] at J;obtain⟨E,Q,H,G,P,a5,a6,a7⟩:=h.aaE U r hE s v u S J C;have l:Ext w0 (Jc D e) g E:=⟨H,fun i x a _=>by
  rw[G];show (if i=k then some (D.nx+1) else g.K i)=some x;rw[if_neg (fun F=>by rw[F,s] at a;cases a)];exact a,P⟩
 have B:Live (Jc D e) N:=fun i a V=>by
  show (if N[i].1=D.nx+1 then some e else D.E N[i].1).isSome=true;split
  ·rfl
  ·exact Y i a V
 have o:Wt (fun i=>(g.dA i).isSome=true\/i=b) w0 w2:=(Wt.below _ r).trans (Wt.grown C (.inl (by rw[h.tm];rfl)));have A:w2.heap[b]? = w0.heap[b]? := by
  rw[C.block b (t.below r).tab.lt (fun x=>by have:=h.tm;rw[<-Option.some.inj x,t.off] at this;cases this)];exact r.block b t.tab.lt
 have I:dK w2 b E M N:=t.other l A B;refine⟨w2,p,((I.mf Q).mono ?_)⟩;rintro y w3 ⟨rfl,m⟩;refine⟨rfl,?_⟩;rcases mg (N:=N) with R|⟨j,K,Lg,W⟩
 ·omega
 have z:j<8:=by have:=t.len;omega
 rw[K];refine((Q.below m).yw (I.below m) z (k:=k) (d:=D.nx+1) (by rw[G];exact if_pos rfl) (by omega) (show (Jc D e).E (D.nx+1)=some e from if_pos rfl) (show (Jc D e).R (D.nx+1)=some 0 from if_pos rfl) (by omega) (by omega)).mono ?_;rintro y w4 ⟨rfl,O,c2,Z⟩;rw[TS] at O;have X:addN D N=N.set j (D.nx+1,false):=by unfold addN;rw[K,show (j:Int).toNat=j by omega]
 rw[X];refine⟨rfl,⟨⟨E,_,O,c2,⟨H,fun i x a _=>by
  rw[G];show (if i=k then some (D.nx+1) else g.K i)=some x;rw[if_neg (fun F=>by rw[F,s] at a;cases a)];exact a,P⟩,a7⟩,?_⟩⟩
 have c:=Z.wt;refine⟨c.os.trans (m.os.trans o.os),c.tape.trans (m.tape.trans o.tape),c.output.trans (m.output.trans o.output),le_trans o.size (le_trans m.size c.size),fun i a L=>?_⟩;have T:=o.size;have ajq:=m.size;rw[c.block i (by omega) (fun l=>L (by
  rcases l with l|l
  ·rw[H i a] at l;exact .inl l
  ·exact .inr l)),m.block i (by omega)]
 exact o.block i a L
theorem QF.zh(h:QF w0 f D g n)(t:dK w0 b g M N)(C:Below w0.heap.size w0 w)(K:w0.heap.size<=q)(J:w.heap[q]? = some (.cells (kN g e 0) 296))(V:D.E (D.nx+1)=none)(u:0<=D.nx)(L:¬ai N<0)(T:Live D N)(B:n<10000):Calls prog 251 #[wp f,wp b,wp q] w fun x H=>x=.returned (.int .i64 (ai N))/\Nr w0 H f (jL D e) g b (addN D N) (n+1):=by
 have E:=h.below C;have c1:=E.cells.2;have h8:=DU;have h7:=Ez;have HA:Aside (∀k:Int,g.K k=none->0<k->k<100000->∃v,AdS w0 w v f b q n g D N k e):=fun k O r p=>h.adding t C K J V u L T B O r p;have HK:Aside (∀i:Nat,(∀j:Nat,1<=j->j<=i->(g.K j).isSome=true)->i<=n):=fun i Q=>h.afk Q;have HL:Aside (∀k:Int,0<=k->k<100000->(Instr.lookup 105 (.map (some g.gO)) (.int .i64 k) false).run prog w=.ok (gv g k) w):=fun k u m=>E.look u m;have h9:=sN f;have R:∀q (W:World),(binOp BinOp.neq 272 (wp q) (.pointer none)).run prog W=.ok (.bool true) W:=fun q W=>by kernel_rfl
 have S:∀(W:World),(binOp BinOp.neq 272 (.pointer none) (.pointer none)).run prog W=.ok (.bool false) W:=fun W=>by kernel_rfl
 have HN:Aside (n<10000):=B;go_enter Tryz.func251,Tryz.ntmps251
 go_wp2_with fail
 go_loopg [7] n (fun I s7 wr=>∃i:Nat,Aside (i+I=n)/\s7=.int .i64 ((i:Int)+1)/\Aside (∀j:Nat,1<=j->j<=i->(g.K j).isSome=true)/\wr=w)
 case atStart=>exact⟨0,(show 0+n=n by omega),rfl,fun j m X=>by omega,rfl⟩
 case round=>
  obtain⟨i,G,rfl,c,o⟩:=hrel;subst o;have P:(i:Int)<10000:=by have:=G.out;have:=HN.out;omega
  have a:=HL.out ((i:Int)+1) (by omega) (by omega);cases hK:g.K ((i:Int)+1) with
  |some d=>
   rw[uO hK] at a;have F:Aside (∀j:Nat,1<=j->j<=i+1->(g.K j).isSome=true):=fun j m X=>by
    by_cases Y:j=i+1
    ·subst Y;rw[show ((i+1:Nat):Int)=(i:Int)+1 by omega,hK];rfl
    ·exact c.out j m (by omega)
   have l:Aside (i+1<=n):=HK.out (i+1) F.out;go_wp2_with fail
   go_roundg (n-(i+1))
   case measure=>have:=G.out;have:=l.out;omega
   case rel=>exact⟨i+1,(show i+1+(n-(i+1))=n by have:=l.out;omega),by rw[show ((i+1:Nat):Int)+1=(i:Int)+1+1 by omega],F,rfl⟩
  |none=>
   rw[Et hK] at a;obtain⟨v,A⟩:=HA.out ((i:Int)+1) hK (by omega) (by omega);have z:=A.run;have s:=A.least;go_wp2_with (first
    |(go_at_call 223;refine s.mono ?_;rintro y w3 ⟨rfl,Z⟩)
    |(go_at_call 224;refine Z.mono ?_;rintro y w4 ⟨rfl,U⟩))
   go_ret;exact⟨rfl,U⟩
end
structure rZ (w w':World) (f:Nat) (D:DS) (T':Wd) (g:QG) (n b:Nat) (M N:Ns):Prop where
 ex:∃g',QF w' f { D with T:=T' } g' n/\dK w' b g' M N/\(∀i,i<w.heap.size->g'.dA i=g.dA i)/\g'.K=g.K/\g'.r=g.r/\g'.B=g.B
 wt:Wt (fun i=>(g.dA i).isSome=true\/i=b) w w'
section
variable {w w' w2 w0 w1:World}{f b n q:Nat}{D D':DS}{g g' g1:QG}{M N N':Ns}{d k m:Int}{e:En}{T':Wd}
theorem dK.Q9(t:dK w b g M N)(c:w'.heap[b]? = w.heap[b]?)(a:∀i,i<w.heap.size->g'.dA i=g.dA i)(d:g'.K=g.K):dK w' b g' M N:=
 ⟨t.tab.keep c,(a b t.tab.lt).trans t.off,t.len,by rw[d];exact t.rel⟩
theorem QF.DJ(h:QF w f D g n)(t:dK w b g M N){O O':Nat->Prop}(a:∀i,O i->g.dA i=some .tree)(p:PT w' g.r T' O')(st:Stp w w' O O'):rZ w w' f D T' g n b M N:=by
 obtain⟨k,q,d,c,m,l⟩:=h.turn a p st;have j:w'.heap[b]? = w.heap[b]? := st.wt.block b t.tab.lt (fun o=>by have:=a b o;rw[t.off] at this;cases this);exact⟨⟨k,q,t.Q9 j d c,d,c,m,l⟩,st.wt.mono (fun i e=>.inl (by rw[a i e];rfl))⟩
theorem QF.still(h:QF w f D g n)(t:dK w b g M N)(a:Below w.heap.size w w'):rZ w w' f D D.T g n b M N:=⟨⟨g,h.below a,t.below a,fun _ _=>rfl,rfl,rfl,rfl⟩,Wt.below _ a⟩
theorem rZ.upon(a:Below w.heap.size w w1)(h:rZ w1 w' f D T' g n b M N):rZ w w' f D T' g n b M N:=by
 obtain⟨⟨e,m,l,k,j⟩,c⟩:=h;exact⟨⟨e,m,l,fun i d=>k i (lt_of_lt_of_le d a.size),j⟩,(Wt.below _ a).trans c⟩
theorem rZ.go(h:rZ w w' f D T' g n b M N):dE w w' f { D with T:=T' } g b N:=by
 obtain⟨⟨e,o,m,l,j,i,_⟩,a⟩:=h;exact⟨⟨e,n,M,o,m,l,fun k d c _=>by rw[j];exact c,i⟩,a⟩
theorem Wt.weaken{A c:Nat->Prop}(h:Wt A w w')(k:Wt c w' w2)(d:∀i,i<w.heap.size->c i->A i):Wt A w w2:=
 ⟨k.os.trans h.os,k.tape.trans h.tape,k.output.trans h.output,le_trans h.size k.size,fun i a b=>(k.block i (lt_of_lt_of_le a h.size) (fun z=>b (d i a z))).trans (h.block i a b)⟩
theorem dE.after(j:∀i,i<w.heap.size->g1.dA i=g.dA i)(p:g1.K=g.K)(m:g1.r=g.r)(e:Wt (fun i=>(g.dA i).isSome=true\/i=b) w w1)(h:dE w1 w2 f D' g1 b N'):dE w w2 f D' g b N':=by
 obtain⟨⟨q,l,t,s,r,c⟩,u⟩:=h;refine⟨⟨q,l,t,s,r,⟨fun i a=>(c.dA i (lt_of_lt_of_le a e.size)).trans (j i a),fun k d n o=>c.key k d (by rw[p];exact n) o,c.r.trans m⟩⟩,e.weaken u (fun i a z=>by
  rcases z with z|z
  ·exact .inl (by rw[<-j i a];exact z)
  ·exact .inr z)⟩
theorem QF.Zc(h:QF w f D g n)(b:bu D.T)(p:List UInt8)(d:p.length<100000)(i:w.cell? ⟨4,0,none⟩=some (.int .i64 m)):Calls prog 233 #[wp g.r,tx p] w fun e c=>e=.returned (.tuple #[.int .i64 (aF D.T p).1,aI (aF D.T p).2])/\Below w.heap.size w c:=by
 obtain⟨O,a,j⟩:=h.tree;obtain⟨k,s,B,G,V,a⟩:=a;exact a.find_ok b.toTrOk (a.num.pos b.toTrOk) p d m i
theorem QF.adh(h:QF w f D g n)(t:dK w b g M N)(m:bu D.T)(x:Int)(a:0<=x)(k:x<100000)(l:∀b y,D.T x=some (.file b y)->y+1<=1000):Calls prog 250 #[wp g.r,.int .i64 x] w fun e c=>e=.returned (aI (dV D.T x 1))/\rZ w c f D (dh D.T x 1) g n b M N:=by
 obtain⟨O,i,o⟩:=h.tree;refine(i.XH m x (gT a (by omega)) l).mono ?_;rintro e c ⟨rfl,j,d⟩;exact⟨rfl,h.DJ t o j d⟩
theorem QF.ac9(h:QF w f D g n)(t:dK w b g M N)(v:bu D.T){s:Nat}(q:dD D.T s)(p:List UInt8)(r:p.length<100000)(u:w.cell? ⟨4,0,none⟩=some (.int .i64 m))(x:∀k C,D.T k=some (.dir C)->C.length<=1000):Calls prog 308 #[wp g.r,tx p] w fun e d=>(aY D.T s p≠0/\e=.returned (.tuple #[.int .i64 0,eF (aY D.T s p)])/\rZ w d f D D.T g n b M N)\/(aY D.T s p=0/\∃k,fV D.T k/\k<64/\e=.returned (.tuple #[.int .i64 k,.nilIface])/\rZ w d f D (jd D.T p false k) g n b M N):=by
 obtain⟨O,o,l⟩:=h.tree;refine(o.Qe v q p r m u x).mono ?_;rintro e d (⟨a,rfl,j,i⟩|⟨a,k,z,y,c,rfl,j,i⟩)
 ·exact .inl ⟨a,rfl,h.DJ t l j i⟩
 ·exact .inr ⟨a,k,y,c,rfl,h.DJ t l j i⟩
theorem YJ(c:Int)(w:World)(b:w.cell? ⟨0,0,none⟩=some iA):Calls prog 14 #[aI c] w fun e a=>e=.returned (.int .i64 c)/\Below w.heap.size w a:=by
 by_cases h:c=0
 ·subst h;refine(F9 w).mono ?_;rintro e a ⟨rfl,rfl⟩;exact⟨rfl,Below.refl _ _⟩
 ·rw[ax h];exact zw c w b
theorem cell_below{v:Value}{q:Nat}(a:w.cell? ⟨q,0,none⟩=some v)(b:Below w.heap.size w w'):w'.cell? ⟨q,0,none⟩=some v:=by
 rw[b.cell (p:=⟨q,0,none⟩) (World.block_lt_of_cell? w _ a)];exact a
theorem QF.OZ(h:QF w f D g n)(t:bu D.T)(p:List UInt8)(o:p.length<100000)(q:w.cell? ⟨4,0,none⟩=some (.int .i64 m))(r:w.cell? ⟨0,0,none⟩=some iA)(mk:Bool)(d:¬((aF D.T p).2=7/\mk=true)):Calls prog 249 #[wp f,tx p,.bool mk] w fun e b=>e=.returned (.tuple #[.int .i64 (aF D.T p).1,aI (aF D.T p).2])/\Below w.heap.size w b:=by
 have hF:=h.Zc t p o q;have x:=h.cells.1;have j:∀V,Below w.heap.size w V->Calls prog 14 #[aI (aF D.T p).2] V fun e b=>e=.returned (.int .i64 (aF D.T p).2)/\Below w.heap.size w b:=fun V i=>by
  refine(YJ _ V (cell_below r i)).mono ?_;rintro e b ⟨rfl,a⟩;exact⟨rfl,i.trans (a.mono i.size)⟩
 generalize (aF D.T p).1=k at *;generalize (aF D.T p).2=c at *;cases mk with
 |false=>
  generalize aI c=U at *;go_enter func249,ntmps249
  go_wp2_with (go_at_call 233;refine hF.mono ?_;rintro y l ⟨rfl,a⟩)
  go_ret2;exact⟨rfl,a⟩
 |true=>
  have s:(c==7)=false:=by simpa using d
  generalize aI c=U at *;go_enter func249,ntmps249
  go_wp2_with (first
   |(go_at_call 233;refine hF.mono ?_;rintro y l ⟨rfl,a⟩)
   |(go_at_call 14;refine(j _ a).mono ?_;rintro y v ⟨rfl,u⟩))
  go_ret2;exact⟨rfl,u⟩
theorem QF.OY(h:QF w f D g n)(t:dK w b g M N)(z:bu D.T){s:Nat}(E:dD D.T s)(p:List UInt8)(v:p.length<100000)(x:w.cell? ⟨4,0,none⟩=some (.int .i64 m))(F:w.cell? ⟨0,0,none⟩=some iA)(H:∀k C,D.T k=some (.dir C)->C.length<=1000)(G:(aF D.T p).2=7):Calls prog 249 #[wp f,tx p,.bool true] w fun e d=>(aY D.T s p≠0/\e=.returned (.tuple #[.int .i64 0,eF (aY D.T s p)])/\rZ w d f D D.T g n b M N)\/(aY D.T s p=0/\∃k,fV D.T k/\k<64/\e=.returned (.tuple #[.int .i64 k,.nilIface])/\rZ w d f D (jd D.T p false k) g n b M N):=by
 have hF:=h.Zc z p v x;rw[G] at hF;have R:=h.cells.1;have r:∀V,Below w.heap.size w V->Calls prog 14 #[aI 7] V fun e d=>e=.returned (.int .i64 7)/\Below w.heap.size w d:=fun V i=>by
  refine(YJ _ V (cell_below F i)).mono ?_;rintro e d ⟨rfl,q⟩;exact⟨rfl,i.trans (q.mono i.size)⟩
 have o:∀V,Below w.heap.size w V->V.cell? ⟨f,0,none⟩=some (wp g.r)/\Calls prog 308 #[wp g.r,tx p] V fun e d=>∃k c,e=.returned (.tuple #[.int .i64 k,aI c])/\((aY D.T s p≠0/\k=0/\c=aY D.T s p/\rZ w d f D D.T g n b M N)\/(aY D.T s p=0/\fV D.T k/\k<64/\c=0/\rZ w d f D (jd D.T p false k) g n b M N)):=fun V i=>by
  refine⟨(h.below i).cells.1,((h.below i).ac9 (t.below i) z E p v (cell_below x i) H).mono ?_⟩;rintro e d (⟨a,rfl,l⟩|⟨a,k,q,c,rfl,l⟩)
  ·exact⟨0,aY D.T s p,by rw[ax a],.inl ⟨a,rfl,rfl,l.upon i⟩⟩
  ·exact⟨k,0,rfl,.inr ⟨a,q,c,rfl,l.upon i⟩⟩
 have J:Aside (∀(d:World) (k c:Int),((aY D.T s p≠0/\k=0/\c=aY D.T s p/\rZ w d f D D.T g n b M N)\/(aY D.T s p=0/\fV D.T k/\k<64/\c=0/\rZ w d f D (jd D.T p false k) g n b M N))->((aY D.T s p≠0/\Ending.returned (.tuple #[.int .i64 k,aI c])=.returned (.tuple #[.int .i64 0,eF (aY D.T s p)])/\rZ w d f D D.T g n b M N)\/(aY D.T s p=0/\∃j,fV D.T j/\j<64/\Ending.returned (.tuple #[.int .i64 k,aI c])=.returned (.tuple #[.int .i64 j,.nilIface])/\rZ w d f D (jd D.T p false j) g n b M N))):=fun d k c B=>by
  rcases B with⟨a,rfl,rfl,l⟩|⟨a,q,u,rfl,l⟩
  ·exact .inl ⟨a,by rw[ax a],l⟩
  ·exact .inr ⟨a,k,q,u,rfl,l⟩
 have K:Aside (∀V,Below w.heap.size w V->V.cell? ⟨f,0,none⟩=some (wp g.r)/\Calls prog 308 #[wp g.r,tx p] V fun e d=>∃k c,e=.returned (.tuple #[.int .i64 k,aI c])/\((aY D.T s p≠0/\k=0/\c=aY D.T s p/\rZ w d f D D.T g n b M N)\/(aY D.T s p=0/\fV D.T k/\k<64/\c=0/\rZ w d f D (jd D.T p false k) g n b M N))):=o;generalize (aF D.T p).1=k0 at *;go_enter func249,ntmps249
 go_upto_region 3 with (first
  |(go_at_call 233;refine hF.mono ?_;rintro y P ⟨rfl,q⟩)
  |(go_at_call 14;refine(r _ q).mono ?_;rintro y O ⟨rfl,u⟩))
 obtain⟨Q,o⟩:=K.out _ u;go_wp2_with (go_at_call 308;refine o.mono ?_;rintro y L ⟨k,c,rfl,A⟩;have I:Aside _:=A;clear A)
 go_ret2;exact J.out _ _ _ I.out
end
section
variable {w w' w2 w0 w1:World}{f b n q k j:Nat}{D D' D1 D2:DS}{g g' g1:QG}{M M1 N N' N1 N2:Ns}{d m:Int}{e:En}{T':Wd}{Ts:List Ns}
theorem dE.comp(h:QF w f D g n)(j:Wt (fun i=>(g.dA i).isSome=true\/i=b) w w1)(a:Ext w D1 g g1)(q:dE w1 w2 f D2 g1 b N2)(p:∀d,(D.E d).isSome=true->(D2.E d).isSome=true->(D1.E d).isSome=true):dE w w2 f D2 g b N2:=by
 obtain⟨⟨r,o,u,t,s,e⟩,v⟩:=q;refine⟨⟨r,o,u,t,s,⟨fun i c=>(e.dA i (lt_of_lt_of_le c j.size)).trans (a.dA i c),fun k d l m=>e.key k d (a.key k d l (p d (h.key k d l).1 m)) m,e.r.trans a.r⟩⟩,j.weaken v (fun i c z=>?_)⟩;rcases z with z|z
 ·exact .inl (by rw[<-a.dA i c];exact z)
 ·exact .inr z
theorem dE.freed(h:QF w f D g n)(I:Inv D Ts k)(B:k<=900)(m:j<Ts.length)(K:Ts[j]=N){all:Bool}{i:Nat}(G:i<8)(u:i<N.length)(t:0<N[i].1)(J:all=true\/N[i].2=true)(L:dE w w1 f (ah all D N i).1 g b (ah all D N i).2):Calls prog 220 #[wp f,wp b,.int .i64 (i:Int)] w1 fun x z=>x=.returned (.tuple #[])/\dE w z f (ah all D N (i+1)).1 g b (ah all D N (i+1)).2:=by
 have v:i<(ah all D N i).2.length:=by rw[(iD all D N i).1];exact u
 have a:=zL (D:=D) (all:=all) u v;have M:N.getD i (0,false)=N[i]:=by rw[List.getD_eq_getElem?_getD,getElem?_eq_getElem u];rfl
 have O:ah all D N (i+1)=(aT (ah all D N i).1 N[i].1,(ah all D N i).2.set i (0,false)):=by
  rw[ah,M,if_pos ⟨t,J⟩]
 have E:=I.free B m all i (by omega);have y:=I.free B m all (i+1) (by omega);rw[K] at E y;rw[O] at y ⊢;have p:j<(Ts.set j (ah all D N i).2).length:=by rw[length_set];exact m
 have o:j<(Ts.set j ((ah all D N i).2.set i (0,false))).length:=by rw[length_set];exact m
 have q:=oF m (ah all D N i).2 p;have r:=oF m ((ah all D N i).2.set i (0,false)) o;have A:=y.live o;rw[r] at A;have l:=E.cl p (i:=i) (by rw[q];exact v);simp only[q] at l;rw[a] at l;obtain⟨e,P⟩:=l t;obtain⟨⟨U,T,V,S,R,Q⟩,F⟩:=L;have C:=S.nC R G v (by rw[a];exact t) (e:=e) (c:=jv N[i].1 (Ts.set j (ah all D N i).2)) (by rw[a];exact P) (by rw[a];exact A);rw[a] at C;refine C.mono ?_;rintro x z ⟨rfl,s⟩;exact⟨rfl,dE.comp h F Q s (fun d _ H=>KZ H)⟩
theorem AP{all:Bool}{i:Nat}(c:i<N.length)(a:¬(0<N[i].1/\(all=true\/N[i].2=true))):ah all D N (i+1)=ah all D N i:=by
 have b:N.getD i (0,false)=N[i]:=by rw[List.getD_eq_getElem?_getD,getElem?_eq_getElem c];rfl
 rw[ah,b,if_neg a]
theorem dE.acI{all:Bool}{i:Nat}(p:i<8)(s:i<N.length)(q:dE w w1 f (ah all D N i).1 g b (ah all D N i).2):∃x:Int×Bool,Calls prog 215 #[wp b,.int .i64 (i:Int)] w1 (fun e m=>e=.returned (.agg #[.int .i64 x.1,.bool x.2])/\dE w m f (ah all D N i).1 g b (ah all D N i).2)/\(x.1=0↔N[i].1=0)/\0<=N[i].1/\x.2=N[i].2/\(x.1=0->x.2=false):=by
 have h:i<(ah all D N i).2.length:=by rw[(iD all D N i).1];exact s
 have d:=zL (D:=D) (all:=all) s h;have y:=q;obtain⟨⟨z,v,l,t,a,A⟩,u⟩:=q;have j:i<l.length:=by rw[a.tab.len];exact p
 have r:=a.tab.xw i;rw[zf a.tab.len p] at r;have o:=(a.pos t i j h).2;have n:=(a.rel i j h).1;rw[d] at o n;have c:=a.aff i h;rw[d] at c;refine⟨l[i],r.mono ?_,o,c,n.symm,(a.tab.nn j).2.2⟩;rintro e m ⟨rfl,k⟩;exact⟨rfl,⟨⟨z,v,l,t.below k,a.below k,A⟩,u.trans (Wt.below _ k)⟩⟩
theorem dE.behind(h:dE w w1 f D' g b N')(a:Below w1.heap.size w1 w2):dE w w2 f D' g b N':=by
 obtain⟨⟨e,d,l,k,j,i⟩,c⟩:=h;exact⟨⟨e,d,l,k.below a,j.below a,i⟩,c.trans (Wt.below _ a)⟩
theorem QF.zN(h:QF w f D g n)(t:dK w b g M N)(I:Inv D Ts k)(hk:k<=900)(hj:j<Ts.length)(hN:Ts[j]=N):Calls prog 283 #[wp f,wp b] w fun y w'=>y=.returned (.tuple #[])/\dE w w' f (ah true D N 8).1 g b (ah true D N 8).2:=by
 have hL:N.length=8:=t.len;have hG0:dE w w f (ah true D N 0).1 g b (ah true D N 0).2:=h.same t (Below.refl _ _);have HA:Aside (∀i (hi:i<8) (aG:i<N.length) W,dE w W f (ah true D N i).1 g b (ah true D N i).2->∃x:Int×Bool,Calls prog 215 #[wp b,.int .i64 (i:Int)] W (fun e w'=>e=.returned (.agg #[.int .i64 x.1,.bool x.2])/\dE w w' f (ah true D N i).1 g b (ah true D N i).2)/\(x.1=0↔N[i].1=0)/\0<=N[i].1/\x.2=N[i].2/\(x.1=0->x.2=false)):=fun i hi aG W hG=>dE.acI hi aG hG;have HF:Aside (∀i (hi:i<8) (aG:i<N.length) W,0<N[i].1->(true=true\/N[i].2=true)->dE w W f (ah true D N i).1 g b (ah true D N i).2->Calls prog 220 #[wp f,wp b,.int .i64 (i:Int)] W fun x w'=>x=.returned (.tuple #[])/\dE w w' f (ah true D N (i+1)).1 g b (ah true D N (i+1)).2):=fun i hi aG W h0 ha hG=>dE.freed h I hk hj hN hi aG h0 ha hG;have HS:Aside (∀i (aG:i<N.length) W,¬(0<N[i].1/\(true=true\/N[i].2=true))->dE w W f (ah true D N i).1 g b (ah true D N i).2->dE w W f (ah true D N (i+1)).1 g b (ah true D N (i+1)).2):=fun i aG W h0 hG=>by
  rw[AP aG h0];exact hG
 have HL:Aside (N.length=8):=hL;have hfm:=zC;go_enter Tryz.func283,Tryz.ntmps283
 go_wp2_with fail
 go_loopg [4,5] 8 (fun mm _ s5 wx=>∃i:Nat,Aside (i+mm=8)/\s5=.int .i64 (i:Int)/\dE w wx f (ah true D N i).1 g b (ah true D N i).2)
 case atStart=>exact⟨0,rfl,rfl,hG0⟩
 case round=>
  obtain⟨i,HI,rfl,hG⟩:=hrel;have hi9':(i:Int)<=8:=by have:=HI.out;omega
  by_cases hlt:(i:Int)<8
  ·have yC:Aside (i<N.length):=by show i<N.length;have:=HL.out;omega
   have Vz:Aside (i<8):=by show i<8;omega
   obtain⟨⟨X,Y⟩,hAt,hx0,hnn,hy,hfr⟩:=HA.out i Vz.out yC.out _ hG;simp only at hAt hx0 hy hfr;by_cases hX:X=0
   ·have VB:Aside (¬(0<(N[i]'yC.out).1/\(true=true\/(N[i]'yC.out).2=true))):=fun z=>by have:=hx0.1 hX;omega
    subst hX;go_wp2_with (first
     |(go_at_call 215;refine hAt.mono ?_;rintro e w1 ⟨rfl,hG1⟩)
     |(go_at_call 216;refine(lJ _ 0 _).mono ?_;rintro e w2 ⟨rfl,b2⟩))
    go_roundg (7-i)
    case measure=>have:=HI.out;omega
    case rel=>exact⟨i+1,(show i+1+(7-i)=8 by omega),by rfl,HS.out i yC.out _ VB.out (hG1.behind b2)⟩
   ·have VB:Aside (0<(N[i]'yC.out).1/\(true=true\/(N[i]'yC.out).2=true)):=⟨by have:(N[i]'yC.out).1≠0:=fun z=>hX (hx0.2 z);omega,.inl rfl⟩;have hX':(X==0)=false:=by simpa using hX
    go_wp2_with (first
     |(go_at_call 215;refine hAt.mono ?_;rintro e w1 ⟨rfl,hG1⟩)
     |(go_at_call 216;refine(lJ _ X _).mono ?_;rintro e w2 ⟨rfl,b2⟩;have vQ:=HF.out i Vz.out yC.out _ VB.out.1 VB.out.2 (hG1.behind b2))
     |(go_at_call 220;refine vQ.mono ?_;rintro e w3 ⟨rfl,hG3⟩))
    go_roundg (7-i)
    case measure=>have:=HI.out;omega
    case rel=>exact⟨i+1,(show i+1+(7-i)=8 by omega),by rfl,hG3⟩
  ·have H8:Aside (i=8):=by show i=8;omega
   have hG8:dE w wr f (ah true D N 8).1 g b (ah true D N 8).2:=by rw[<-H8.out];exact hG
   go_wp2_with fail
   go_end0
   exact⟨rfl,hG8⟩
theorem QF.XU(h:QF w f D g n)(t:dK w b g M N)(I:Inv D Ts k)(hk:k<=900)(hj:j<Ts.length)(hN:Ts[j]=N):Calls prog 159 #[wp f,wp b] w fun y w'=>y=.returned (.tuple #[])/\dE w w' f (ah false D N 8).1 g b (ah false D N 8).2:=by
 have hL:N.length=8:=t.len;have hG0:dE w w f (ah false D N 0).1 g b (ah false D N 0).2:=h.same t (Below.refl _ _);have HA:Aside (∀i (hi:i<8) (aG:i<N.length) W,dE w W f (ah false D N i).1 g b (ah false D N i).2->∃x:Int×Bool,Calls prog 215 #[wp b,.int .i64 (i:Int)] W (fun e w'=>e=.returned (.agg #[.int .i64 x.1,.bool x.2])/\dE w w' f (ah false D N i).1 g b (ah false D N i).2)/\(x.1=0↔N[i].1=0)/\0<=N[i].1/\x.2=N[i].2/\(x.1=0->x.2=false)):=fun i hi aG W hG=>dE.acI hi aG hG;have HF:Aside (∀i (hi:i<8) (aG:i<N.length) W,0<N[i].1->(false=true\/N[i].2=true)->dE w W f (ah false D N i).1 g b (ah false D N i).2->Calls prog 220 #[wp f,wp b,.int .i64 (i:Int)] W fun x w'=>x=.returned (.tuple #[])/\dE w w' f (ah false D N (i+1)).1 g b (ah false D N (i+1)).2):=fun i hi aG W h0 ha hG=>dE.freed h I hk hj hN hi aG h0 ha hG;have HS:Aside (∀i (aG:i<N.length) W,¬(0<N[i].1/\(false=true\/N[i].2=true))->dE w W f (ah false D N i).1 g b (ah false D N i).2->dE w W f (ah false D N (i+1)).1 g b (ah false D N (i+1)).2):=fun i aG W h0 hG=>by
  rw[AP aG h0];exact hG
 have HL:Aside (N.length=8):=hL;have hfm:=zC;go_enter Tryz.func159,Tryz.ntmps159
 go_wp2_with fail
 go_loopg [4,5] 8 (fun mm _ s5 wx=>∃i:Nat,Aside (i+mm=8)/\s5=.int .i64 (i:Int)/\dE w wx f (ah false D N i).1 g b (ah false D N i).2)
 case atStart=>exact⟨0,rfl,rfl,hG0⟩
 case round=>
  obtain⟨i,HI,rfl,hG⟩:=hrel;have hi9':(i:Int)<=8:=by have:=HI.out;omega
  by_cases hlt:(i:Int)<8
  ·have yC:Aside (i<N.length):=by show i<N.length;have:=HL.out;omega
   have Vz:Aside (i<8):=by show i<8;omega
   obtain⟨⟨X,Y⟩,hAt,hx0,hnn,hy,hfr⟩:=HA.out i Vz.out yC.out _ hG;simp only at hAt hx0 hy hfr;by_cases hX:Y=false
   ·have VB:Aside (¬(0<(N[i]'yC.out).1/\(false=true\/(N[i]'yC.out).2=true))):=fun z=>by rcases z.2 with z2|z2;exact absurd z2 (by simp);rw[<-hy,hX] at z2;cases z2
    subst hX;clear hG hx0 hnn hy hfr;go_wp2_with (go_at_call 215;refine hAt.mono ?_;rintro e w1 ⟨rfl,hG1⟩)
    go_roundg (7-i)
    case measure=>have:=HI.out;omega
    case rel=>exact⟨i+1,(show i+1+(7-i)=8 by omega),by rfl,HS.out i yC.out _ VB.out hG1⟩
   ·have VB:Aside (0<(N[i]'yC.out).1/\(false=true\/(N[i]'yC.out).2=true)):=⟨by have:X≠0:=fun z=>hX (hfr z);have:(N[i]'yC.out).1≠0:=fun z=>this (hx0.2 z);omega,.inr (by rw[<-hy];simpa using hX)⟩;have hX2:Y=true:=by simpa using hX
    have hfl:=zC X Y;rw[hX2] at hAt;go_wp2_with (first
     |(go_at_call 215;refine hAt.mono ?_;rintro e w1 ⟨rfl,hG1⟩;have vQ:=HF.out i Vz.out yC.out _ VB.out.1 VB.out.2 hG1)
     |(go_at_call 220;refine vQ.mono ?_;rintro e w3 ⟨rfl,hG3⟩))
    go_roundg (7-i)
    case measure=>have:=HI.out;omega
    case rel=>exact⟨i+1,(show i+1+(7-i)=8 by omega),by rfl,hG3⟩
  ·have H8:Aside (i=8):=by show i=8;omega
   have hG8:dE w wr f (ah false D N 8).1 g b (ah false D N 8).2:=by rw[<-H8.out];exact hG
   go_wp2_with fail
   go_end0
   exact⟨rfl,hG8⟩
end
theorem CW{D:DS}{N:Ns}{i:Nat}(a:i<N.length):jf D (N.take (i+1))=if 0<N[i].1 then jq (jf D (N.take i)) N[i].1 else jf D (N.take i):=by
 unfold jf;rw[List.take_succ_eq_append_getElem a,List.foldl_append];rfl
def upTo(N:Ns)(i:Nat):Ns:=N.take i++replicate (8-i) (0,false)
theorem SA{N:Ns}(h:N.length=8){i:Nat}(a:i<=8):(upTo N i).length=8:=by
 unfold upTo;rw[List.length_append,length_take,List.length_replicate];omega
theorem F5{N:Ns}(h:N.length=8):upTo N 8=N:=by
 unfold upTo;rw[List.take_of_length_le (by omega)];simp
theorem zo{N:Ns}(h:N.length=8){i:Nat}(a:i<8):(upTo N i).set i (N[i]'(by omega))=upTo N (i+1):=by
 unfold upTo;rw[List.set_append,length_take,if_neg (by omega),show 8-i=(8-(i+1))+1 by omega,List.replicate_succ,List.take_succ_eq_append_getElem (by omega),show i-min i N.length=0 by omega,List.append_assoc];rfl
theorem Cb{N:Ns}(h:N.length=8){i:Nat}(a:i<8)(b:N[i]'(by omega)=(0,false)):upTo N (i+1)=upTo N i:=by
 rw[<-zo h a,b];unfold upTo;rw[List.set_append,length_take,if_neg (by omega),show 8-i=(8-(i+1))+1 by omega,List.replicate_succ,show i-min i N.length=0 by omega];rfl
section
variable {w w' w2 w0 w1:World}{f b n q k j:Nat}{D D' D1 D2:DS}{g g' g1:QG}{M M1 N N' N1 N2:Ns}{d m:Int}{e:En}{T':Wd}{Ts:List Ns}
structure BF (w W:World) (f b n:Nat) (D:DS) (g:QG) (M N:Ns) (i:Nat):Prop where
 q:QF W f (jf D (N.take i)) g n
 t:dK W b g M N
 u:dK W w.heap.size g (upTo M i) (upTo N i)
 wt:Wt (fun i=>(g.dA i).isSome=true) w W
 lt:b<w.heap.size
theorem BF.below{W:World}{i:Nat}(h:BF w W f b n D g M N i)(a:Below W.heap.size W w'):BF w w' f b n D g M N i:=⟨h.q.below a,h.t.below a,h.u.below a,h.wt.trans (Wt.below _ a),h.lt⟩
theorem MI(h:QF w f D g n):g.dA w.heap.size=none:=by
 cases e:g.dA w.heap.size with
 |none=>rfl
 |some t=>have:=h.lt _ (by rw[e];rfl);omega
theorem BF.give{W:World}{i:Nat}(h:BF w W f b n D g M N i)(I:Inv D Ts k)(T:j<Ts.length)(O:Ts[j]=N)(d:i<8)(m:i<M.length)(u:i<N.length)(r:0<N[i].1):Calls prog 224 #[wp f,wp w.heap.size,.int .i64 (i:Int),.int .i64 M[i].1] W fun x c=>x=.returned (.tuple #[])/\c.cell? ⟨b,i*2+1,none⟩=some (.bool M[i].2)/\(∃v,c.cell? ⟨w.heap.size,i*2+1,none⟩=some v)/\c.frozen? ⟨w.heap.size,i*2+1,none⟩=false/\∀V,V.heap=(c.setCell ⟨w.heap.size,i*2+1,none⟩ (.bool M[i].2)).heap->V.os=c.os->V.tape=c.tape->V.output=c.output->BF w V f b n D g M N (i+1):=by
 have G:=h.t.keyOf m u r;have q:=h.t.tab.len;have K:=h.t.len;have Q:=mW.fork (N.take i) I.core (fun x s Z=>by
  rw[<-O] at s;obtain⟨y,Y,rfl⟩:=getElem_of_mem (List.mem_of_mem_take s);exact fK T Y)
 have hcp:0<jv N[i].1 Ts:=by
  have:=fK (Ts:=Ts) (j:=j) (i:=i) T (by rw[O];exact u);simp only[O] at this;exact this
 have h64:=I.LB N[i].1;have H:=MX N[i].1 (N.take i);rw[length_take] at H;obtain⟨e,R⟩:=Q.cl r (by omega) (by omega);have hR:=R.cnt;refine(h.q.yw h.u d G r R.gz hR (by omega) R.c1).mono ?_;rintro x c ⟨rfl,a1,A,hG⟩;have hk0:=(h.q.key _ _ G).2.1;have E:(upTo M i).length=8:=SA q (by omega);have a:=hG.wt;have o:b≠w.heap.size:=fun e9=>by have:=h.lt;omega
 have J:c.heap[b]? = W.heap[b]? := a.block b h.t.tab.lt (by
  rintro (z|z)
  ·rw[h.t.off] at z;cases z
  ·exact o z)
 have C:dK c b g M N:=h.t.keep J;refine⟨rfl,(C.tab.at d).2,⟨_,(A.tab.at d).2⟩,A.tab.free _,fun V p ho ht F=>?_⟩;have l:((upTo M i).set i (M[i].1,false))[i]'(by rw[length_set,E];exact d)=(M[i].1,false):=List.getElem_set_self _;have B:=A.tab.mark d M[i].2 (by rw[l];simp only;omega);rw[l] at B;simp only[set_set] at B;have P:(upTo M i).set i (M[i].1,M[i].2)=upTo M (i+1):=zo q d;have L:(upTo N i).set i (N[i].1,N[i].2)=upTo N (i+1):=zo K d;have S:=A.set (i:=i) (M[i].1,M[i].2) (N[i].1,N[i].2) (by rw[set_set];exact B) ⟨(h.t.rel i m u).1,.inr ⟨r,G⟩⟩;rw[set_set,set_set,P,L] at S;have t:=aV c w.heap.size (i*2+1) (.bool M[i].2);have X:=a1.DR h.u.off t;have hsz:V.heap.size=(c.setCell ⟨w.heap.size,i*2+1,none⟩ (.bool M[i].2)).heap.size:=by rw[p]
 have hD:jf D (N.take (i+1))=jq (jf D (N.take i)) N[i].1:=by rw[CW u,if_pos r]
 refine⟨by rw[hD];exact X.keep (fun x _=>by rw[p]) (by omega),C.keep (by rw[p];exact t.block b (C.tab.lt) (fun z=>o (Option.some.inj z))),S.keep (by rw[p]),?_,h.lt⟩;refine⟨ho.trans (a.os.trans h.wt.os),ht.trans (a.tape.trans h.wt.tape),F.trans (a.output.trans h.wt.output),?_,fun x s U=>?_⟩
 ·have:=t.size;have:=a.size;have:=h.wt.size;omega
 ·have:=h.wt.size;have:=a.size;rw[p,t.block x (by omega) (fun z=>by have:=Option.some.inj z;omega),a.block x (by omega) (by
   rintro (z|z)
   ·exact U z
   ·omega)]
  exact h.wt.block x s U
theorem BF.skip{W:World}{i:Nat}(h:BF w W f b n D g M N i)(l:i<8)(c:i<M.length)(o:i<N.length)(m:¬0<N[i].1):BF w W f b n D g M N (i+1):=by
 have j:=h.t.rel i c o;have a:M[i].1=0/\N[i].1=0:=by
  rcases j.2 with z|z
  ·exact z
  ·exact absurd z.1 m
 have k:=(h.t.tab.nn c).2.2 a.1;have e:M[i]=(0,false):=Prod.ext a.1 k;have d:N[i]=(0,false):=Prod.ext a.2 (j.1.trans k);refine⟨by rw[CW o,if_neg m];exact h.q,h.t,?_,h.wt,h.lt⟩;rw[Cb h.t.tab.len l e,Cb h.t.len l d];exact h.u
theorem BF.first(h:QF w f D g n)(t:dK w b g M N):BF w (w.alloc (.cells (nv (replicate 8 (0,false))).toArray 116)) f b n D g M N 0:=by
 have a:Below w.heap.size w (w.alloc (.cells (nv (replicate 8 (0,false))).toArray 116)):=(Below.refl _ w).alloc (le_refl _) _;have j:(w.alloc (.cells (nv (replicate 8 (0,false))).toArray 116)).heap[w.heap.size]? = some (.cells (nv (replicate 8 (0,false))).toArray 116):=by
  show (w.heap.push _)[w.heap.size]? = _;rw[Array.getElem?_push,if_pos rfl]
 refine⟨h.below a,t.below a,⟨⟨j,rfl,fun x e=>?_⟩,MI h,rfl,fun i l k=>?_⟩,Wt.below _ a,t.tab.lt⟩
 ·have:=List.eq_of_mem_replicate (show x∈replicate 8 ((0:Int),false) from e);rw[this];simp
 ·have d:(upTo M 0)[i]=(0,false):=List.eq_of_mem_replicate (show (upTo M 0)[i]∈replicate 8 ((0:Int),false) from getElem_mem l);have c:(upTo N 0)[i]=(0,false):=List.eq_of_mem_replicate (show (upTo N 0)[i]∈replicate 8 ((0:Int),false) from getElem_mem k);exact⟨(congrArg Prod.snd c).trans (congrArg Prod.snd d).symm,.inl ⟨congrArg Prod.fst d,congrArg Prod.fst c⟩⟩
theorem QF.uP(h:QF w f D g n)(t:dK w b g M N)(I:Inv D Ts k)(hj:j<Ts.length)(hN:Ts[j]=N):Calls prog 230 #[wp f,wp b] w fun y w'=>y=.returned (wp w.heap.size)/\QF w' f (jf D N) g n/\dK w' b g M N/\dK w' w.heap.size g M N/\Wt (fun i=>(g.dA i).isSome=true) w w':=by
 have hF0:=BF.first h t;have HL:Aside (N.length=8/\M.length=8):=⟨t.len,t.tab.len⟩;have HG:Aside (∀(W:World) (i:Nat),BF w W f b n D g M N i->i<8->∀(hiM:i<M.length) (aG:i<N.length),0<N[i].1->Calls prog 224 #[wp f,wp w.heap.size,.int .i64 (i:Int),.int .i64 M[i].1] W fun x w'=>x=.returned (.tuple #[])/\w'.cell? ⟨b,i*2+1,none⟩=some (.bool M[i].2)/\(∃v,w'.cell? ⟨w.heap.size,i*2+1,none⟩=some v)/\w'.frozen? ⟨w.heap.size,i*2+1,none⟩=false/\∀V,V.heap=(w'.setCell ⟨w.heap.size,i*2+1,none⟩ (.bool M[i].2)).heap->V.os=w'.os->V.tape=w'.tape->V.output=w'.output->BF w V f b n D g M N (i+1)):=fun W i hF hi hiM aG h0=>hF.give I hj hN hi hiM aG h0;have HFd:Aside (∀(W:World) (i:Nat),BF w W f b n D g M N i->i<8->∀(hiM:i<M.length) (aG:i<N.length),0<N[i].1->Calls prog 219 #[wp f,wp b,.int .i64 (i:Int)] W fun x w'=>∃q,x=.returned (.tuple #[wp q,.nilIface])/\BF w w' f b n D g M N i/\w'.cell? ⟨b,i*2,none⟩=some (.int .i64 M[i].1)):=fun W i hF hi hiM aG h0=>by
  refine(hF.q.ay hF.t hi aG h0).mono ?_;rintro x w' ⟨rfl,b1⟩;have hF1:=hF.below b1;exact⟨_,rfl,hF1,(hF1.t.tab.at hi).1⟩
 have HFn:Aside (∀(W:World) (i:Nat),BF w W f b n D g M N i->i<8->∀(aG:i<N.length),N[i].1<=0->Calls prog 219 #[wp f,wp b,.int .i64 (i:Int)] W fun x w'=>x=.returned (.tuple #[.pointer none,eF 7])/\BF w w' f b n D g M N (i+1)):=fun W i hF hi aG h0=>by
  refine(hF.q.j4 hF.t i (by unfold aJ;rw[getD_in aG];simp;omega)).mono ?_;rintro x w' ⟨rfl,b1⟩;exact⟨rfl,(hF.below b1).skip hi (by have:=hF.t.tab.len;omega) aG (by omega)⟩
 go_enter Tryz.func230,Tryz.ntmps230
 go_wp2_with fail
 go_loopg [6,7,8,11] 8 (fun mm _ _ _ s11 wx=>∃i:Nat,Aside (i+mm=8)/\s11=.int .i64 (i:Int)/\BF w wx f b n D g M N i)
 case atStart=>exact⟨0,rfl,rfl,hF0⟩
 case round=>
  obtain⟨i,HI,rfl,hF⟩:=hrel;have hi9':(i:Int)<=8:=by have:=HI.out;omega
  by_cases hlt:(i:Int)<8
  ·have yC:Aside (i<N.length):=by show i<N.length;have:=HL.out;omega
   have HiM:Aside (i<M.length):=by show i<M.length;have:=HL.out;omega
   have Vz:Aside (i<8):=by show i<8;omega
   by_cases h0:0<(N[i]'yC.out).1
   ·have QD:=HFd.out _ i hF Vz.out HiM.out yC.out h0;have H0:Aside (0<(N[i]'yC.out).1):=h0;have HGv:Aside (∀W,BF w W f b n D g M N i->_):=fun W hW=>HG.out W i hW Vz.out HiM.out yC.out H0.out;generalize (M[i]'HiM.out).1=X at *;generalize (M[i]'HiM.out).2=Y at *;go_upto_region 7 with (go_at_call 219;refine QD.mono ?_;rintro x w2 ⟨q,rfl,hF2,c2⟩)
    have Zr:=HGv.out _ hF2;go_upto_region 8 with (go_at_call 224;refine Zr.mono ?_;rintro x w3 ⟨rfl,c3,⟨v,c4⟩,z4,hN⟩)
    have HN:Aside _:=hN
    go_region
    all_goals
     go_wp2_with fail
     go_roundg (7-i)
     case measure=>have:=HI.out;omega
     case rel=>exact⟨i+1,(show i+1+(7-i)=8 by omega),by rfl,HN.out _ rfl rfl rfl rfl⟩
   ·have QD:=HFn.out _ i hF Vz.out yC.out (by omega);go_wp2_with (go_at_call 219;refine QD.mono ?_;rintro x w2 ⟨rfl,hF2⟩)
    go_roundg (7-i)
    case measure=>have:=HI.out;omega
    case rel=>exact⟨i+1,(show i+1+(7-i)=8 by omega),by rfl,hF2⟩
  ·have h8:i=8:=by omega
   subst h8;have hq:=hF.q;have hu:=hF.u;have ht:=hF.t;have hw:=hF.wt;rw[List.take_of_length_le (by have:=HL.out;omega)] at hq;rw[F5 HL.out.1,F5 HL.out.2] at hu;go_wp2_with fail
   go_ret;exact⟨rfl,hq,ht,hu,hw⟩
end
section
variable {w w' w2 w0 w1:World}{r:Nat}{T:Wd}{O:Nat→Prop}
theorem Z6(b:Nat)(w:World):(binOp BinOp.eql 54 (wp b) (.pointer none)).run prog w=.ok (.bool false) w:=by kernel_rfl
theorem QF.made(h:PT w r T O):∃g,QF ((w.alloc (.map #[] 0)).alloc (.cells #[wp r,.map (some w.heap.size)] 107)) (w.heap.size+1) (qh T) g 0/\(∀i,i<w.heap.size->((g.dA i).isSome=true↔O i))/\g.r=r:=by
 classical
 have t:Below w.heap.size w (w.alloc (.map #[] 0)):=(Below.refl _ w).alloc (le_refl _) _;have b:(w.alloc (.map #[] 0)).heap.size=w.heap.size+1:=by simp
 have s:Below w.heap.size w ((w.alloc (.map #[] 0)).alloc (.cells #[wp r,.map (some w.heap.size)] 107)):=t.alloc (by omega) _;have l:((w.alloc (.map #[] 0)).alloc (.cells #[wp r,.map (some w.heap.size)] 107)).heap.size=w.heap.size+1+1:=by
  show ((w.alloc (.map #[] 0)).heap.push _).size=_;rw[Array.size_push,b]
 have m:∀i,O i->i<w.heap.size:=fun i f=>h.lt i f;have n:∀i,O i->(if i=w.heap.size+1 then some Tag.head else if i=w.heap.size then some Tag.mp else if O i then some Tag.tree else none)=some Tag.tree:=fun i f=>by
  have:=m i f;rw[if_neg (by omega),if_neg (by omega),if_pos f]
 refine⟨⟨r,w.heap.size,fun _=>none,fun _=>0,fun _=>0,fun i=>if i=w.heap.size+1 then some .head else if i=w.heap.size then some .mp else if O i then some .tree else none⟩,⟨?_,⟨O,h.below s,n⟩,?_,fun d e a=>(by cases a),fun k d a=>(by cases a),fun d a=>(by cases a),fun k u d a=>(by cases a),fun p x a=>(by cases a),if_pos rfl,?_,fun i f=>?_⟩,fun i f=>?_,rfl⟩
 ·show ((w.alloc (.map #[] 0)).heap.push _)[w.heap.size+1]? = _;rw[Array.getElem?_push,if_pos b.symm]
 ·exact(aK.made w).keep (Below.heap_alloc _ _ _ (by rw[b];omega))
 ·show (if w.heap.size=w.heap.size+1 then some Tag.head else if w.heap.size=w.heap.size then some Tag.mp else _)=some Tag.mp;rw[if_neg (by omega),if_pos rfl]
 ·have c:(if i=w.heap.size+1 then some Tag.head else if i=w.heap.size then some Tag.mp else if O i then some Tag.tree else none).isSome=true:=f;rw[l];by_cases q:i=w.heap.size+1
  ·omega
  ·by_cases o:i=w.heap.size
   ·omega
   ·rw[if_neg q,if_neg o] at c;by_cases j:O i
    ·have:=m i j;omega
    ·rw[if_neg j] at c;cases c
 ·show ((if i=w.heap.size+1 then some Tag.head else if i=w.heap.size then some Tag.mp else if O i then some Tag.tree else none).isSome=true↔O i);rw[if_neg (by omega),if_neg (by omega)];by_cases j:O i
  ·simp[j]
  ·simp[j]
theorem afS.ok(h:PT w r T O):Calls prog 18 #[wp r] w fun y a=>∃f g,y=.returned (.tuple #[wp f,.nilIface])/\QF a f (qh T) g 0/\(∀i,i<w.heap.size->((g.dA i).isSome=true↔O i))/\g.r=r/\Below w.heap.size w a:=by
 have o:=Z6 r;have c:=@run_makeMap prog;have d:=QF.made h;have j:Below w.heap.size w (w.alloc (.map #[] 0)):=(Below.refl _ w).alloc (le_refl _) _;have b:(w.alloc (.map #[] 0)).heap.size=w.heap.size+1:=by simp
 have e:Below w.heap.size w ((w.alloc (.map #[] 0)).alloc (.cells #[wp r,.map (some w.heap.size)] 107)):=j.alloc (by omega) _;have n:Aside (∃g,QF ((w.alloc (.map #[] 0)).alloc (.cells #[wp r,.map (some w.heap.size)] 107)) (w.heap.size+1) (qh T) g 0/\(∀i,i<w.heap.size->((g.dA i).isSome=true↔O i))/\g.r=r):=d;go_enter Tryz.func18,Tryz.ntmps18
 go_wp2_with fail
 go_ret2;obtain⟨g,m,l,k⟩:=n.out;exact⟨w.heap.size+1,g,rfl,m,l,k,e⟩
end
theorem Uu{T:Wd}{x:Int}(h:dV T x 1≠0):dh T x 1=T:=by
 unfold dV at h;unfold dh;cases hn:T x with
 |none=>rfl
 |some nd=>cases nd with
  |dir C=>rfl
  |file b y=>
   rw[hn] at h;simp only at h ⊢;by_cases a:(y:Int)+1<0
   ·omega
   ·rw[if_neg a] at h;exact absurd rfl h
noncomputable def iT(D:DS)(N:Ns)(x:Int):DS:=if aJ N x=true then aT D (N.getD x.toNat (0,false)).1 else D
def gW(N:Ns)(x:Int):Ns:=if aJ N x=true then N.set x.toNat (0,false) else N
def fu(N:Ns)(x y:Int):Int:=if aJ N x=true then (if 0<=y/\y<=7 then 0 else 2) else 7
noncomputable def fQ(D:DS)(N:Ns)(x y:Int):DS:=if fu N x y=0/\x≠y then (if (N.getD y.toNat (0,false)).1=0 then jq D (N.getD x.toNat (0,false)).1 else aT (jq D (N.getD x.toNat (0,false)).1) (N.getD y.toNat (0,false)).1) else D
def fq(N:Ns)(x y:Int):Ns:=if fu N x y=0/\x≠y then N.set y.toNat ((N.getD x.toNat (0,false)).1,false) else N
def vV(N:Ns)(n:Nat):Prop:=ak N+2 > 8\/n+2 > 40
def rX(D:DS)(N:Ns)(n:Nat)(x y c:Int)(D':DS)(N':Ns):Prop:=(vV N n/\x=0/\y=0/\c=12/\D'=D/\N'=N)\/(¬vV N n/\x=ai N/\y=ai (dI D N)/\c=0/\D'=xg D/\N'=BH D N)
section
variable {D:DS}{Ts:List Ns}{k j i:Nat}{d:Int}{e:En}
theorem F4:∀(N:Ns) (i:Nat) (y:Int×Bool),ak (N.set i y)<=ak N+1
 | [],_,_=>by simp[ak]
 |x::N,0,y=>by
  simp only[List.set_cons_zero,ak,filter_cons];split<;>split<;>simp<;>omega
 |x::N,i+1,y=>by
  have:=F4 N i y;simp only[set_cons_succ,ak,filter_cons] at this ⊢;split
  ·simp;omega
  ·exact this
theorem Inv.nn(h:Inv D Ts k)(b:j<Ts.length):∀x∈Ts[j],0<=x.1:=fun x a=>((h.tab _ (getElem_mem b)).2 x a).1
theorem Inv.Ct(h:Inv D Ts k)(a:j<Ts.length){n:Nat}(e:¬vV Ts[j] n):¬ai Ts[j]<0/\¬ai (dI D Ts[j])<0:=by
 have p:=h.core.jW.n0;have d:=h.len a;have i:ak Ts[j]+2<=8:=by unfold vV at e;omega
 have g:¬ai Ts[j]<0:=fun z=>by
  have:=(jR (h.nn a)).1 z;omega
 refine⟨g,fun z=>?_⟩;have f:∀x∈dI D Ts[j],0<=x.1:=fun x c=>by
  unfold dI addN at c;rcases List.mem_or_eq_of_mem_set c with b|b
  ·exact h.nn a x b
  ·rw[b];show 0<=D.nx+1+1;omega
 have o:=(jR f).1 z;have m:ak (dI D Ts[j])<=ak Ts[j]+1:=F4 _ _ _;have l:(dI D Ts[j]).length=8:=by unfold dI addN;rw[length_set];exact d
 omega
theorem Inv.abk(h:Inv D Ts k)(d:k<=900)(b:j<Ts.length)(x:Int):Inv (iT D Ts[j] x) (Ts.set j (gW Ts[j] x)) k:=by
 unfold iT gW;by_cases a:aJ Ts[j] x=true
 ·obtain⟨i,rfl,f,c,e⟩:=dU a (h.len b);rw[if_pos a,if_pos a,getD_in c,show (i:Int).toNat=i by omega];exact h.close d b c e
 ·rw[if_neg a,if_neg a];exact h.lu b
theorem Inv.adu(h:Inv D Ts k)(o:k<=900)(b:j<Ts.length)(x y:Int):Inv (fQ D Ts[j] x y) (Ts.set j (fq Ts[j] x y)) k:=by
 unfold fQ fq;by_cases a:fu Ts[j] x y=0/\x≠y
 ·rw[if_pos a,if_pos a];obtain⟨a,n⟩:=a;unfold fu at a;by_cases e:aJ Ts[j] x=true
  ·rw[if_pos e] at a;by_cases m:0<=y/\y<=7
   ·obtain⟨i,rfl,p,g,l⟩:=dU e (h.len b);obtain⟨c,rfl⟩:∃c:Nat,y=c:=⟨y.toNat,by omega⟩;have d:c<Ts[j].length:=by rw[h.len b];omega
    rw[getD_in g,getD_in d,show (c:Int).toNat=c by omega];by_cases f:Ts[j][c].1=0
    ·rw[if_pos f];exact h.dup b d f l (fK b g) false
    ·rw[if_neg f];have:=h.nn b _ (getElem_mem d);exact(h.dup2 o b d (by omega) l (fK b g)).1
   ·rw[if_neg m] at a;omega
  ·rw[if_neg e] at a;omega
 ·rw[if_neg a,if_neg a];exact h.lu b
end
section
variable {w w' w2 w0 w1:World}{f b n q:Nat}{D D':DS}{g g' g1:QG}{M N N':Ns}{d k m:Int}{e:En}{T':Wd}
theorem Ml(w:World)(a b c d e x:Value)(t:TypeId):(w.alloc (.cells #[a,b,c,d,e,x] t)).heap[w.heap.size]? = some (.cells #[a,b,c,d,e,x] t):=by
 show (w.heap.push _)[w.heap.size]? = _;rw[Array.getElem?_push,if_pos rfl]
theorem dK.nn(t:dK w b g M N):∀x∈N,0<=x.1:=fun x a=>by
 obtain⟨i,d,rfl⟩:=getElem_of_mem a;rcases (t.rel i (by rw[t.tab.len];have:=t.len;omega) d).2 with⟨_,c⟩|⟨c,_⟩
 ·omega
 ·omega
theorem dK.Kt(t:dK w b g M N):ai N<0↔8<=ak N:=by
 have a:=jR t.nn;rw[t.len] at a;exact a
theorem QF.Ra(h:QF w f D g n)(t:dK w b g M N)(m:n<10000){z:Bool}(l:(z=true/\roomy N n)\/(z=false/\¬roomy N n)):Calls prog 248 #[wp f,wp b,.int .i64 1] w fun e j=>e=.returned (.bool z)/\Below w.heap.size w j:=by
 have d:=h.Md t 1 (by omega) m;have c:=t.Kt;have o:(decide (ak N+1<=8)&&decide (n+1<=40))=z:=by
  rcases l with⟨rfl,a⟩|⟨rfl,a⟩
  ·obtain⟨k,q⟩:=a;have:¬8<=ak N:=fun x=>k (c.2 x);rw[decide_eq_true (by omega),decide_eq_true (by omega)];rfl
  ·by_cases i:ai N<0
   ·have:=c.1 i;rw[decide_eq_false (by omega)];rfl
   ·have:¬n<40:=fun x=>a ⟨i,x⟩;rw[decide_eq_false (p:=n+1<=40) (by omega),Bool.and_false]
 rw[o] at d;exact d
structure FOk (D:DS) (N:Ns) (n s:Nat):Prop where
 lv:bu D.T
 num:dD D.T s
 sm:Sm 900 D.T
 jW:Given D
 live:Live D N
 few:n<10000
theorem QF.UA(h:QF w f D g n)(t:dK w b g M N)(p:List UInt8)(a:Int)(mk:Bool)(l:¬(1<=a/\a<=3)):Calls prog 175 #[wp f,wp b,tx p,.int .i64 a,.bool mk] w fun y e=>y=.returned (.tuple #[.int .i64 0,eF 1])/\dE w e f D g b N:=by
 have c:=GK w a;have k:(decide (1<=a)&&decide (a<=3))=false:=by
  simp only[Bool.and_eq_false_iff,decide_eq_false_iff_not];omega
 rw[k] at c;have j:=h.same t (Below.refl _ w);go_enter func175,ntmps175
 go_wp2_with (go_at_call 247;refine c.mono ?_;rintro y d ⟨rfl,i⟩;subst d)
 go_ret2;exact⟨rfl,j⟩
theorem D6(w:World){a:Int}(f:1<=a/\a<=3):Calls prog 247 #[.int .i64 a] w fun e c=>e=.returned (.bool true)/\c=w:=by
 have b:=GK w a;have d:(decide (1<=a)&&decide (a<=3))=true:=by simp;omega
 rw[d] at b;exact b
theorem QF.PO(h:QF w f D g n)(t:dK w b g M N)(p:List UInt8)(c:Int)(mk:Bool)(k:1<=c/\c<=3)(j:¬roomy N n)(l:n<10000):Calls prog 175 #[wp f,wp b,tx p,.int .i64 c,.bool mk] w fun y a=>y=.returned (.tuple #[.int .i64 0,eF 12])/\dE w a f D g b N:=by
 have o:=D6 w k;have q:=h.Ra t l (z:=false) (.inr ⟨rfl,j⟩);have i:∀a,Below w.heap.size w a->dE w a f D g b N:=fun a m=>h.same t m;go_enter func175,ntmps175
 go_wp2_with (first
  |(go_at_call 247;refine o.mono ?_;rintro y d ⟨rfl,e⟩;subst d)
  |(go_at_call 248;refine q.mono ?_;rintro y s ⟨rfl,r⟩))
 go_ret2;exact⟨rfl,i _ r⟩
theorem QF.kI(h:QF w f D g n)(t:dK w b g M N)(p:List UInt8)(d:Int)(mk:Bool)(m:1<=d/\d<=3)(l:roomy N n)(o:n<10000){c:Int}
 (s:∀V,Below w.heap.size w V->Calls prog 249 #[wp f,tx p,.bool mk] V fun e a=>(∃k,e=.returned (.tuple #[.int .i64 k,eF c]))/\dE w a f D g b N) :
 Calls prog 175 #[wp f,wp b,tx p,.int .i64 d,.bool mk] w fun y a=>y=.returned (.tuple #[.int .i64 0,eF c])/\dE w a f D g b N:=by
 have q:=D6 w m;have r:=h.Ra t o (z:=true) (.inl ⟨rfl,l⟩);go_enter func175,ntmps175
 go_wp2_with (first
  |(go_at_call 247;refine q.mono ?_;rintro y i ⟨rfl,j⟩;subst i)
  |(go_at_call 248;refine r.mono ?_;rintro y A ⟨rfl,v⟩)
  |(go_at_call 249;refine(s _ v).mono ?_;rintro y x ⟨⟨k,rfl⟩,u⟩))
 go_ret2;exact⟨rfl,u⟩
theorem rZ.hold(o:rZ w w1 f D T' g n b M N)(p:bu T')(x:Int)(d:0<=x)(c:x<100000)(m:∀b y,T' x=some (.file b y)->y+1<=1000):Calls prog 250 #[wp g.r,.int .i64 x] w1 fun e j=>e=.returned (aI (dV T' x 1))/\rZ w j f D (dh T' x 1) g n b M N:=by
 obtain⟨⟨H,F,E,l,C,k,B⟩,h⟩:=o;rw[<-k];refine(F.adh E p x d c m).mono ?_;rintro e j ⟨rfl,⟨⟨q,A,v,u,t,s,r⟩,G⟩⟩;refine⟨rfl,⟨⟨q,A,v,fun i a=>(u i (lt_of_lt_of_le a h.size)).trans (l i a),t.trans C,s.trans k,r.trans B⟩,h.weaken G (fun i a z=>?_)⟩⟩;rcases z with z|z
 ·exact .inl (by rw[<-l i a];exact z)
 ·exact .inr z
theorem rZ.cell0(a:rZ w w1 f D T' g n b M N):w1.cell? ⟨f,0,none⟩=some (wp g.r):=by
 obtain⟨⟨h,d,k,j,i,c,_⟩,e⟩:=a;rw[<-c];exact d.cells.1
theorem rZ.add(j:rZ w w1 f D T' g n b M N)(d:Given D)(l:¬ai N<0)(m:Live D N)(k:n<10000)(a nd:Int):Calls prog 251 #[wp f,wp b,wp w1.heap.size] (w1.alloc (.cells #[.int .i64 1,.int .i64 a,.int .i64 0,.int .i64 nd,.int .i64 0,.pointer none] 296)) fun x c=>x=.returned (.int .i64 (ai N))/\dE w c f (jL { D with T:=T' } ⟨1,a,nd,0,0⟩) g b (addN D N):=by
 obtain⟨⟨z,u,t,s,r,p,_⟩,h⟩:=j;obtain⟨i,y,v⟩:=d.new;refine(u.zh (e:=⟨1,a,nd,0,0⟩) (q:=w1.heap.size) t ((Below.refl _ w1).alloc (le_refl _) _) (le_refl _) (Ml _ _ _ _ _ _ _ _) i d.n0 l m k).mono ?_;rintro x c ⟨rfl,o⟩;exact⟨rfl,dE.after s r p h o.go⟩
theorem QF.MP{s:Nat}{Q:Int->Wd->Prop}(h:QF w f D g n)(t:dK w b g M N)(p:List UInt8)(i:Int)(mk:Bool)(S:1<=i/\i<=3)(E:roomy N n)(ok:FOk D N n s)
 (Y:∀V,Below w.heap.size w V->Calls prog 249 #[wp f,tx p,.bool mk] V fun e d=>∃k a,e=.returned (.tuple #[.int .i64 k,.nilIface])/\Q k a/\rZ w d f D a g n b M N)
 (X:∀k a,Q k a->bu a/\0<=k/\k<100000/\∀b y,a k=some (.file b y)->y+1<=1000) :
 Calls prog 175 #[wp f,wp b,tx p,.int .i64 i,.bool mk] w fun y d=>∃k a,Q k a/\((dV a k 1≠0/\y=.returned (.tuple #[.int .i64 0,eF (dV a k 1)])/\dE w d f { D with T:=dh a k 1 } g b N)\/(dV a k 1=0/\y=.returned (.tuple #[.int .i64 (ai N),.nilIface])/\dE w d f (jL { D with T:=dh a k 1 } ⟨1,i,k,0,0⟩) g b (addN D N))):=by
 have U:=D6 w S;have W:=h.Ra t ok.few (z:=true) (.inl ⟨rfl,E⟩);have HH:Aside (∀k a V,Q k a->rZ w V f D a g n b M N->V.cell? ⟨f,0,none⟩=some (wp g.r)/\Calls prog 250 #[wp g.r,.int .i64 k] V fun e d=>∃c,e=.returned (aI c)/\c=dV a k 1/\rZ w d f D (dh a k 1) g n b M N):=fun k a V m o=>by
  obtain⟨P,O,K,J⟩:=X k a m;refine⟨o.cell0,(o.hold P k O K J).mono ?_⟩;rintro e d ⟨rfl,I⟩;exact⟨_,rfl,rfl,I⟩
 have HA:Aside (∀k B V,rZ w V f D B g n b M N->Calls prog 251 #[wp f,wp b,wp V.heap.size] (V.alloc (.cells #[.int .i64 1,.int .i64 i,.int .i64 0,.int .i64 k,.int .i64 0,.pointer none] 296)) fun x d=>x=.returned (.int .i64 (ai N))/\dE w d f (jL { D with T:=B } ⟨1,i,k,0,0⟩) g b (addN D N)):=fun k B V o=>o.add ok.jW E.1 ok.live ok.few i k;generalize ai N=L at *;go_enter func175,ntmps175
 go_upto_region 6 with (first
  |(go_at_call 247;refine U.mono ?_;rintro y H ⟨rfl,R⟩;subst H)
  |(go_at_call 248;refine W.mono ?_;rintro y w2 ⟨rfl,b2⟩)
  |(go_at_call 249;refine(Y _ b2).mono ?_;rintro y w3 ⟨k,a,rfl,m,v⟩))
 obtain⟨c0,A⟩:=HH.out k a _ m v;have l:Aside (Q k a):=m;go_upto_region 9 with (go_at_call 250;refine A.mono ?_;rintro y w4 ⟨c,rfl,F,j⟩;have C:Aside _:=F;have G:Aside _:=j;clear F j)
 by_cases r:c=0
 ·subst r;have hA:=HA.out k _ _ G.out;have q:Aside (dV a k 1=0):=C.out.symm;have u:aI 0=.nilIface:=rfl;rw[u];go_wp2_with (go_at_call 251;refine hA.mono ?_;rintro y w5 ⟨rfl,Z⟩)
  go_ret2;exact⟨k,a,l.out,.inr ⟨q.out,rfl,Z⟩⟩
 ·rw[ax r];have q:Aside (dV a k 1≠0/\c=dV a k 1):=⟨fun e=>r (C.out.trans e),C.out⟩;have HG:=G.out.go;go_wp2_with fail
  go_ret2;exact⟨k,a,l.out,.inl ⟨q.out.1,by rw[<-q.out.2];rfl,HG⟩⟩
theorem QF.nD(h:QF w f D g n)(t:dK w b g M N){s:Nat}(ok:FOk D N n s)(p:List UInt8)(F:p.length<100000)(v:Int)(mk:Bool)(L:w.cell? ⟨4,0,none⟩=some (.int .i64 m))(O:w.cell? ⟨0,0,none⟩=some iA):Calls prog 175 #[wp f,wp b,tx p,.int .i64 v,.bool mk] w fun y l=>∃k c D' N',y=.returned (.tuple #[.int .i64 k,aI c])/\iM D N n s p v mk k c D' N'/\dE w l f D' g b N':=by
 by_cases j:1<=v/\v<=3
 ·by_cases q:roomy N n
  ·by_cases J:(aF D.T p).2=7/\mk=true
   ·obtain⟨u,rfl⟩:=J;have r:∀V,Below w.heap.size w V->_:=fun V d=>(h.below d).OY (t.below d) ok.lv ok.num p F (cell_below L d) (cell_below O d) (fun k C e=>by have:=ok.sm.1 k C e;omega) u;by_cases x:aY D.T s p=0
    ·refine(h.MP t p v true j q ok (Q:=fun k E=>fV D.T k/\k<64/\E=jd D.T p false k) (fun V d=>(r V d).mono ?_) ?_).mono ?_
     ·rintro e l (⟨a,_⟩|⟨a,k,z,H,rfl,I⟩)
      ·exact absurd x a
      ·exact⟨k,_,rfl,⟨z,H,rfl⟩,I.upon d⟩
     ·rintro k E ⟨z,H,rfl⟩;have B:=rF ok.lv.toTrOk x z;exact⟨ok.lv.make x z H false,z.pos,by omega,fun b y e=>by have:=B.2 b y e;omega⟩
     ·rintro y l ⟨k,E,⟨z,H,rfl⟩,o⟩;have B:=rF ok.lv.toTrOk x z;rcases o with⟨o,_⟩|⟨_,rfl,i⟩
      ·exact absurd B.1 o
      ·exact⟨_,0,_,_,rfl,.made j q u rfl x k z,i⟩
    ·refine(h.kI t p v true j q ok.few (c:=aY D.T s p) (fun V d=>(r V d).mono ?_)).mono ?_
     ·rintro e l (⟨a,rfl,I⟩|⟨a,_⟩)
      ·exact⟨⟨_,rfl⟩,(I.upon d).go⟩
      ·exact absurd a x
     ·rintro y l ⟨rfl,i⟩;exact⟨0,_,D,N,by rw[ax x],.yQ j q u rfl x,i⟩
   ·have r:∀V,Below w.heap.size w V->_:=fun V d=>(h.below d).OZ ok.lv p F (cell_below L d) (cell_below O d) mk J;by_cases u:(aF D.T p).2=0
    ·have A:=mH ok.lv.toTrOk u;have G:=ok.lv.key _ A;refine(h.MP t p v mk j q ok (Q:=fun k E=>k=(aF D.T p).1/\E=D.T) (fun V d=>(r V d).mono ?_) ?_).mono ?_
     ·rintro e l ⟨rfl,K⟩;exact⟨_,D.T,by rw[u];rfl,⟨rfl,rfl⟩,(h.below d |>.still (t.below d) K).upon d⟩
     ·rintro k E ⟨rfl,rfl⟩;exact⟨ok.lv,G.1,by omega,fun b y e=>by have:=(ok.sm.2 _ b y e).1;omega⟩
     ·rintro y l ⟨k,E,⟨rfl,rfl⟩,o⟩;rcases o with⟨o,rfl,i⟩|⟨o,rfl,i⟩
      ·rw[Uu o] at i;exact⟨0,_,D,N,by rw[ax o],.dir j q u o,i⟩
      ·exact⟨_,0,_,_,rfl,.opened j q u o,i⟩
    ·refine(h.kI t p v mk j q ok.few (c:=(aF D.T p).2) (fun V d=>(r V d).mono ?_)).mono ?_
     ·rintro e l ⟨rfl,K⟩;exact⟨⟨_,by rw[ax u]⟩,h.same t (d.trans (K.mono d.size))⟩
     ·rintro y l ⟨rfl,i⟩;exact⟨0,_,D,N,by rw[ax u],.no j q u J,i⟩
  ·refine(h.PO t p v mk j q ok.few).mono ?_;rintro y l ⟨rfl,i⟩;exact⟨0,12,D,N,rfl,.full j q,i⟩
 ·refine(h.UA t p v mk j).mono ?_;rintro y l ⟨rfl,i⟩;exact⟨0,1,D,N,rfl,.arg j,i⟩
end
abbrev sI:Array Value:=#[.int .i64 0,.int .i64 0,.int .i64 0,.int .i64 0,.int .u8 0,.int .u8 0,.int .u8 0,.int .u8 0,.int .u8 0,.int .u8 0,.int .u8 0,.int .u8 0,.int .u8 0,.int .u8 0,.int .u8 0,.int .u8 0,.int .u8 0,.int .u8 0,.int .u8 0,.int .u8 0,.int .i64 0]
theorem aaB(w:World)(t:TypeId):Tb (w.alloc (.cells sI t)) w.heap.size 0 0 []:=by
 have a:(w.alloc (.cells sI t)).heap[w.heap.size]? = some (.cells sI t):=by
  show (w.heap.push _)[w.heap.size]? = _;rw[Array.getElem?_push,if_pos rfl]
 refine⟨by simp,?_,?_,fun k b=>?_,?_,fun k _=>?_⟩
 ·rw[cell_of_row _ _ _ _ _ _ a];rfl
 ·rw[cell_of_row _ _ _ _ _ _ a];rfl
 ·rw[cell_of_row _ _ _ _ _ _ a,DX _ _ (Nat.zero_le _)];have:k=0\/k=1\/k=2\/k=3\/k=4\/k=5\/k=6\/k=7\/k=8\/k=9\/k=10\/k=11\/k=12\/k=13\/k=14\/k=15:=by omega
  rcases this with rfl|rfl|rfl|rfl|rfl|rfl|rfl|rfl|rfl|rfl|rfl|rfl|rfl|rfl|rfl|rfl<;>rfl
 ·rw[cell_of_row _ _ _ _ _ _ a];rfl
 ·unfold World.frozen?;simp only;rw[a];simp
section
variable {w w' w2 w0 w1:World}{f b n q:Nat}{D D':DS}{g g' g1:QG}{M N N':Ns}{d k m:Int}{e:En}{T':Wd}
def Va(D:DS)(p:Int)(x:Pi)(kd:Int):DS:={ D with P:=fun i=>if i=p then some (x.1,opF x.2.1 kd,opI x.2.2 kd) else D.P i }
theorem QF.WM(h:QF w f D g n)(t:dK w b g M N){p:Int}{x:Pi}(A:D.P p=some x)(hF:0<=x.2.1/\x.2.1<1000)(B:0<=x.2.2/\x.2.2<1000)(d l:Int)(r:d≠1)(L:D.E (D.nx+1)=none)(P:0<=D.nx)(I:¬ai N<0)(K:Live D N)(H:n<10000):Calls prog 309 #[wp (g.Q p),.int .i64 d] w fun y j=>(∃v,y=.returned v)/\Calls prog 251 #[wp f,wp b,wp j.heap.size] (j.alloc (.cells #[.int .i64 d,.int .i64 l,.int .i64 0,.int .i64 0,.int .i64 0,wp (g.Q p)] 296)) fun k s=>k=.returned (.int .i64 (ai N))/\Nr w s f (jL (Va D p x d) ⟨d,l,0,p,0⟩) g b (addN D N) (n+1):=by
 obtain⟨F,u⟩:=h.pipe p x A;refine(F.rf d hF.1 hF.2 B.1 B.2).mono ?_;rintro y j ⟨rfl,R,m⟩;refine⟨⟨_,rfl⟩,?_⟩;have O:QF j f (Va D p x d) g n:=h.piped A (x':=(x.1,opF x.2.1 d,opI x.2.2 d)) R m;have G:=t.sJ (by rw[u];rfl) m;have o:pv g ⟨d,l,0,p,0⟩=wp (g.Q p):=if_neg r;refine(O.zh (e:=⟨d,l,0,p,0⟩) (q:=j.heap.size) G ((Below.refl _ j).alloc (le_refl _) _) (le_refl _) (by rw[kN,o];exact Ml _ _ _ _ _ _ _ _) L P I K H).mono ?_;rintro z s ⟨rfl,⟨⟨Q,S,a,c,k,C⟩,E⟩⟩;exact⟨rfl,⟨Q,S,a,c,⟨fun i J=>k.dA i (lt_of_lt_of_le J m.size),k.key,k.r⟩,C⟩,(Wt.grown m (.inl (by rw[u];rfl))).trans E⟩
theorem QF.Dl(h:QF w f D g n)(t:dK w b g M N){p:Int}{x:Pi}(j:D.P p=some x)(hF:0<=x.2.1/\x.2.1<1000)(r:0<=x.2.2/\x.2.2<1000)(a c:Int)(d:a≠1)(u:D.E (D.nx+1)=none)(A:0<=D.nx)(l:¬ai N<0)(o:Live D N)(k:n<10000):Calls prog 252 #[wp f,wp b,wp (g.Q p),.int .i64 a,.int .i64 c] w fun i e=>i=.returned (.int .i64 (ai N))/\Nr w e f (jL (Va D p x a) ⟨a,c,0,p,0⟩) g b (addN D N) (n+1):=by
 have m:=h.WM t j hF r a c d u A l o k;generalize jL (Va D p x a) ⟨a,c,0,p,0⟩=D2 at *;generalize addN D N=N2 at *;generalize ai N=L at *;generalize hQ:g.Q p=q at *;go_enter Tryz.func252,Tryz.ntmps252
 go_wp2_with (first
  |(go_at_call 309;refine m.mono ?_;rintro y B ⟨⟨v,rfl⟩,z⟩)
  |(go_at_call 251;refine z.mono ?_;rintro y e ⟨rfl,s⟩))
 go_ret;exact⟨rfl,s⟩
theorem QF.YP(h:QF w f D g n)(t:dK w b g M N)(j:n<10000){z:Bool}(d:(z=true/\¬(ak N+2 > 8\/n+2 > 40))\/(z=false/\(ak N+2 > 8\/n+2 > 40))):Calls prog 248 #[wp f,wp b,.int .i64 2] w fun e c=>e=.returned (.bool z)/\Below w.heap.size w c:=by
 have a:=h.Md t 2 (by omega) j;have l:(decide (ak N+2<=8)&&decide (n+2<=40))=z:=by
  rcases d with⟨rfl,i⟩|⟨rfl,i⟩
  ·rw[decide_eq_true (by omega),decide_eq_true (by omega)];rfl
  ·by_cases k:ak N+2<=8
   ·rw[decide_eq_false (p:=n+2<=40) (by omega),Bool.and_false]
   ·rw[decide_eq_false k];rfl
 rw[l] at a;exact a
theorem QF.WG(h:QF w f D g n)(t:dK w b g M N)(e:ak N+2 > 8\/n+2 > 40)(d:n<10000):Calls prog 177 #[wp f,wp b] w fun x a=>x=.returned (.tuple #[.int .i64 0,.int .i64 0,eF 12])/\dE w a f D g b N:=by
 have j:=h.YP t d (.inr ⟨rfl,e⟩);have c:∀a,Below w.heap.size w a->dE w a f D g b N:=fun a i=>h.same t i;go_enter Tryz.func177,Tryz.ntmps177
 go_wp2_with (go_at_call 248;refine j.mono ?_;rintro y l ⟨rfl,k⟩)
 go_ret3
 exact⟨rfl,c _ k⟩
theorem OE(D:DS):jL (Va (jL (Va { D with P:=fun i=>if i=D.nx+1 then some ([],0,0) else D.P i,nx:=D.nx+1 } (D.nx+1) ([],0,0) 2) ⟨2,1,0,D.nx+1,0⟩) (D.nx+1) ([],1,0) 3) ⟨3,2,0,D.nx+1,0⟩=xg D:=by
 unfold xg qA lV Va jL;simp only[DS.mk.injEq,true_and,and_true];funext i;by_cases e:i=D.nx+1
 ·simp[e,opF,opI]
 ·simp[e]
theorem Live.add{D:DS}{N:Ns}(h:Live D N)(e:En):Live (jL D e) (addN D N):=fun i b c=>by
 show (if (addN D N)[i].1=D.nx+1 then some e else D.E (addN D N)[i].1).isSome=true;by_cases a:(addN D N)[i].1=D.nx+1
 ·rw[if_pos a];rfl
 ·rw[if_neg a];unfold addN at a c b ⊢;rw[length_set] at b;by_cases d:(ai N).toNat=i
  ·rw[List.getElem_set] at a;rw[if_pos d] at a;exact absurd rfl a
  ·rw[List.getElem_set_ne d] at c ⊢;exact h i b c
theorem QF.zA(h:QF w f D g n)(t:dK w b g M N)(j:Given D)(hg:D.nx<4990)(hE:∀d e,D.E d=some e->e.pipe≠D.nx+1\/e.kind=1)(hf:¬(ak N+2 > 8\/n+2 > 40))(A:¬ai N<0)(v:¬ai (dI D N)<0)(R:Live D N):Calls prog 177 #[wp f,wp b] w fun x w'=>x=.returned (.tuple #[.int .i64 (ai N),.int .i64 (ai (dI D N)),.nilIface])/\dE w w' f (xg D) g b (BH D N):=by
 have L:n<10000:=by omega
 have hR:=h.YP t L (.inl ⟨rfl,hf⟩);have l:=j.new;have H1:∀V,Below w.heap.size w V->Calls prog 252 #[wp f,wp b,wp V.heap.size,.int .i64 2,.int .i64 1] (V.alloc (.cells sI 300)) fun Z u=>Z=.returned (.int .i64 (ai N))/\Calls prog 252 #[wp f,wp b,wp V.heap.size,.int .i64 3,.int .i64 2] u fun x8 s=>x8=.returned (.int .i64 (ai (dI D N)))/\dE w s f (xg D) g b (BH D N):=fun V c=>by
  have C:=h.below c;have o:Below V.heap.size V (V.alloc (.cells sI 300)):=(Below.refl _ V).alloc (le_refl _) _;obtain⟨S,a1,W,U,a4,a5⟩:=C.Xe (q:=V.heap.size) (p:=D.nx+1) (le_refl _) (by show V.heap.size<(V.heap.push _).size;rw[Array.size_push];omega) o l.2.2 hE (x:=([],0,0)) (aaB V _) (D.nx+1);have B:b<V.heap.size:=(t.below c).tab.lt;have t1:dK (V.alloc (.cells sI 300)) b S M N:=(t.below c).Q9 (o.block b B) W U;have hg0:=j.n0;have H:D.E (D.nx+1+1)=none:=by
   cases hx:D.E (D.nx+1+1) with
   |none=>rfl
   |some e=>have:=j.e _ (by rw[hx];rfl);omega
  rw[<-a5];refine(a1.Dl t1 (p:=D.nx+1) (x:=([],0,0)) (if_pos rfl) ⟨by simp,by simp⟩ ⟨by simp,by simp⟩ 2 1 (by omega) H (show 0<=D.nx+1 by omega) A R L).mono ?_;rintro y u ⟨rfl,⟨⟨g2,M2,c1,T,K,c4⟩,X⟩⟩;refine⟨rfl,?_⟩;rw[<-c4];have E:addN { D with P:=fun i=>if i=D.nx+1 then some ([],0,0) else D.P i,nx:=D.nx+1 } N=dI D N:=rfl;rw[E] at T;have F:Live (jL (Va { D with P:=fun i=>if i=D.nx+1 then some ([],0,0) else D.P i,nx:=D.nx+1 } (D.nx+1) ([],0,0) 2) ⟨2,1,0,D.nx+1,0⟩) (dI D N):=Live.add (D:=Va { D with P:=fun i=>if i=D.nx+1 then some ([],0,0) else D.P i,nx:=D.nx+1 } (D.nx+1) ([],0,0) 2) (N:=N) R _;have G:(jL (Va { D with P:=fun i=>if i=D.nx+1 then some ([],0,0) else D.P i,nx:=D.nx+1 } (D.nx+1) ([],0,0) 2) ⟨2,1,0,D.nx+1,0⟩).E (D.nx+1+1+1)=none:=by
   show (if D.nx+1+1+1=D.nx+1+1 then _ else D.E (D.nx+1+1+1))=none;rw[if_neg (by omega)];cases hx:D.E (D.nx+1+1+1) with
   |none=>rfl
   |some e=>have:=j.e _ (by rw[hx];rfl);omega
  refine(c1.Dl T (p:=D.nx+1) (x:=([],1,0)) (show (if D.nx+1=D.nx+1 then _ else _)=_ from if_pos rfl) ⟨by simp,by simp⟩ ⟨by simp,by simp⟩ 3 2 (by omega) G (show 0<=D.nx+1+1 by omega) v F (by omega)).mono ?_;rintro y s ⟨rfl,Q⟩;rw[OE] at Q;refine⟨rfl,?_⟩;obtain⟨⟨g3,M3,d1,d2,J,d4⟩,r⟩:=Q;have hs1:=c.size;have hs2:=o.size;have hs3:=X.size;have m:∀i,i<w.heap.size->S.dA i=g.dA i:=fun i a=>W i (by omega);have Y:∀i,i<w.heap.size->g2.dA i=g.dA i:=fun i a=>(K.dA i (by omega)).trans (m i a);have Fs:Wt (fun i=>(g.dA i).isSome=true\/i=b) w (V.alloc (.cells sI 300)):=Wt.below _ (c.trans (o.mono c.size));refine⟨⟨g3,_,M3,d1,d2,⟨fun i a=>(J.dA i (by omega)).trans (Y i a),fun k d O hd=>?_,J.r.trans (K.r.trans a4)⟩⟩,(Fs.weaken X (fun i a z=>?_)).weaken r (fun i a z=>?_)⟩
  ·refine J.key k d (K.key k d (by rw[U];exact O) ?_) hd;show (if d=D.nx+1+1 then some _ else D.E d).isSome=true;split
   ·rfl
   ·exact(h.key k d O).1
  ·rcases z with z|z
   ·exact .inl (by rw[<-m i a];exact z)
   ·exact .inr z
  ·rcases z with z|z
   ·exact .inl (by rw[<-Y i a];exact z)
   ·exact .inr z
 generalize ai (dI D N)=L2 at *;generalize ai N=L1 at *;generalize xg D=D2 at *;generalize BH D N=N2 at *;go_enter Tryz.func177,Tryz.ntmps177
 go_upto_region 4 with (go_at_call 248;refine hR.mono ?_;rintro y w1 ⟨rfl,b1⟩)
 have hA:=H1 _ b1;go_wp2_with (first
  |(go_at_call 252;refine I.mono ?_;rintro y s ⟨rfl,j⟩)
  |(go_at_call 252;refine hA.mono ?_;rintro y u ⟨rfl,I⟩))
 go_ret3
 exact⟨rfl,j⟩
end
section
variable {w w' w2 w0 w1:World}{f b n q:Nat}{D D':DS}{g g' g1:QG}{M N N':Ns}{d k m:Int}{e:En}{T':Wd}
theorem QF.Ca(h:QF w f D g n)(t:dK w b g M N)(x u:Int)(c:aJ N x=false):Calls prog 253 #[wp f,wp b,.int .i64 x,.int .i64 u] w fun y a=>y=.returned (.tuple #[.pointer none,eF 7])/\Below w.heap.size w a:=by
 have hF:=h.j4 t x c;go_enter func253,ntmps253
 go_wp2_with (go_at_call 219;refine hF.mono ?_;rintro y e ⟨rfl,d⟩)
 go_ret2;exact⟨rfl,d⟩
theorem QF.vv(h:QF w f D g n)(t:dK w b g M N){i:Nat}(p:i<8)(x:i<N.length)(s:0<N[i].1)(d:D.E N[i].1=some e)(u:Int)(o:(u=1/\e.af=2)\/(u=2/\e.af=1)):Calls prog 253 #[wp f,wp b,.int .i64 (i:Int),.int .i64 u] w fun y m=>y=.returned (.tuple #[.pointer none,eF 13])/\Below w.heap.size w m:=by
 have hF:=h.ay t p x s;have j:∀V,Below w.heap.size w V->V.cell? ⟨g.B N[i].1,1,none⟩=some (.int .i64 e.af):=fun V k=>by
  obtain⟨c,r,_⟩:=(h.below k).gz _ e d;exact((h.below k).lU d r).2.1
 generalize g.B N[i].1=q at *;generalize e.af=pr at *;rcases o with⟨rfl,rfl⟩|⟨rfl,rfl⟩
 ·go_enter func253,ntmps253
  go_wp2_with (go_at_call 219;refine hF.mono ?_;rintro y l ⟨rfl,a⟩;have v:=j _ a)
  go_ret2;exact⟨rfl,a⟩
 ·go_enter func253,ntmps253
  go_wp2_with (go_at_call 219;refine hF.mono ?_;rintro y l ⟨rfl,a⟩;have v:=j _ a)
  go_ret2;exact⟨rfl,a⟩
theorem QF.mo(h:QF w f D g n)(t:dK w b g M N){i:Nat}(m:i<8)(s:i<N.length)(r:0<N[i].1)(a:D.E N[i].1=some e)(u:Int)(l:(u=1/\(e.af=1\/e.af=3))\/(u=2/\(e.af=2\/e.af=3))):Calls prog 253 #[wp f,wp b,.int .i64 (i:Int),.int .i64 u] w fun y k=>y=.returned (.tuple #[wp (g.B N[i].1),.nilIface])/\Below w.heap.size w k:=by
 have hF:=h.ay t m s r;have o:∀V,Below w.heap.size w V->V.cell? ⟨g.B N[i].1,1,none⟩=some (.int .i64 e.af):=fun V d=>by
  obtain⟨c,p,_⟩:=(h.below d).gz _ e a;exact((h.below d).lU a p).2.1
 generalize g.B N[i].1=q at *;generalize e.af=pr at *;rcases l with⟨rfl,rfl|rfl⟩|⟨rfl,rfl|rfl⟩;all_goals
  go_enter func253,ntmps253
  go_wp2_with (go_at_call 219;refine hF.mono ?_;rintro y v ⟨rfl,j⟩;have x:=o _ j)
  go_ret2;exact⟨rfl,j⟩
theorem QF.Mf(h:QF w f D g n)(t:dK w b g M N)(x a c:Int)(i:c≠0)(k:Calls prog 253 #[wp f,wp b,.int .i64 x,.int .i64 1] w fun y d=>y=.returned (.tuple #[.pointer none,eF c])/\Below w.heap.size w d):Calls prog 179 #[wp f,wp b,.int .i64 x,.int .i64 a] w fun y d=>y=.returned (.tuple #[tx [],aI c])/\dE w d f D g b N:=by
 have e:∀d,Below w.heap.size w d->dE w d f D g b N:=fun d j=>h.same t j;rw[ax i];go_enter func179,ntmps179
 go_wp2_with (go_at_call 253;refine k.mono ?_;rintro y m ⟨rfl,l⟩)
 go_ret2;exact⟨rfl,e _ l⟩
theorem QF.Tq(h:QF w f D g n)(t:dK w b g M N){i:Nat}(J:i<8)(X:i<N.length)(T:0<N[i].1)(m:D.E N[i].1=some e)(a:Int)(E:e.kind≠1)(r:e.af=1\/e.af=3){p:Pi}(C:D.P e.pipe=some p)(L:0<=p.2.2):Calls prog 179 #[wp f,wp b,.int .i64 (i:Int),.int .i64 a] w fun y l=>y=.returned (.tuple #[tx (p.1.take a.toNat),aI (IQ p.2.2 p.1 a)])/\dE w l f { D with P:=fun j=>if j=e.pipe then some (p.1.drop a.toNat,p.2.1,p.2.2) else D.P j } g b N:=by
 have K:=h.mo t J X T m 1 (.inl ⟨rfl,r⟩);have s:(e.kind==1)=false:=by simpa using E
 have o:pv g e=wp (g.Q e.pipe):=if_neg E;have v:∀V,Below w.heap.size w V->V.cell? ⟨g.B N[i].1,5,none⟩=some (wp (g.Q e.pipe))/\Calls prog 254 #[wp (g.B N[i].1)] V (fun x l=>x=.returned (.bool false)/\l=V)/\Calls prog 255 #[wp (g.Q e.pipe),.int .i64 a] V fun y l=>y=.returned (.tuple #[tx (p.1.take a.toNat),aI (IQ p.2.2 p.1 a)])/\dE w l f { D with P:=fun j=>if j=e.pipe then some (p.1.drop a.toNat,p.2.1,p.2.2) else D.P j } g b N:=fun V z=>by
  have d:=h.below z;obtain⟨c,R,_⟩:=d.gz _ e m;have F:=(d.lU m R).2.2.2.2.2.1;rw[o] at F;have k:=d.oQ m;rw[s] at k;obtain⟨H,B⟩:=d.pipe _ p C;refine⟨F,k,(H.Eg a L).mono ?_⟩;rintro y l ⟨rfl,Y,u⟩;exact⟨rfl,⟨⟨g,n,M,d.piped C (x':=(p.1.drop a.toNat,p.2.1,p.2.2)) Y u,(t.below z).sJ (by rw[B];rfl) u,Ext.refl _ _ _⟩,(Wt.below _ z).trans (Wt.grown u (.inl (by rw[B];rfl)))⟩⟩
 generalize ({ D with P:=fun j=>if j=e.pipe then some (p.1.drop a.toNat,p.2.1,p.2.2) else D.P j }:DS)=D2 at *;generalize g.B N[i].1=q at *;generalize g.Q e.pipe=Q at *;generalize aI (IQ p.2.2 p.1 a)=U at *;generalize List.take a.toNat p.1=S at *;go_enter func179,ntmps179
 go_wp2_with (first
  |(go_at_call 253;refine K.mono ?_;rintro y w1 ⟨rfl,W⟩;obtain⟨c5,k,A⟩:=v _ W)
  |(go_at_call 254;refine k.mono ?_;rintro y G ⟨rfl,I⟩;subst G)
  |(go_at_call 255;refine A.mono ?_;rintro y Z ⟨rfl,O⟩))
 go_ret2;exact⟨rfl,O⟩
theorem OB{T:Wd}{x a c:Int}(h:jw T x a c≠0):eG T x a c=[]:=by
 unfold jw at h;unfold eG;cases hn:T x with
 |none=>rfl
 |some nd=>cases nd with
  |dir C=>rfl
  |file b y=>
   have f:bF T x=0:=by unfold bF;rw[hn]
   rw[if_neg (fun e=>e f)] at h;simp only;by_cases d:a<0\/c<0
   ·rw[if_pos d]
   ·rw[if_neg d] at h;exact absurd rfl h
theorem QF.OA(h:QF w f D g n)(t:dK w b g M N){i:Nat}(U:i<8)(aG:i<N.length)(h0:0<N[i].1)(l:D.E N[i].1=some e)(a:Int)(T:e.kind=1)(A:e.af=1\/e.af=3)(B:0<=e.node/\e.node<1000)(v:0<=e.pos/\e.pos<=200)(hl:(eG D.T e.node e.pos a).length<=100000):Calls prog 179 #[wp f,wp b,.int .i64 (i:Int),.int .i64 a] w fun y k=>y=.returned (.tuple #[tx (eG D.T e.node e.pos a),aI (jw D.T e.node e.pos a)])/\dE w k f { D with E:=fun j=>if j=N[i].1 then some { e with pos:=e.pos+(eG D.T e.node e.pos a).length } else D.E j } g b N:=by
 have X:=h.mo t U aG h0 l 1 (.inl ⟨rfl,A⟩);have m:∀V,Below w.heap.size w V->(V.cell? ⟨f,0,none⟩=some (wp g.r)/\V.cell? ⟨g.B N[i].1,3,none⟩=some (.int .i64 e.node)/\V.cell? ⟨g.B N[i].1,4,none⟩=some (.int .i64 e.pos))/\V.frozen? ⟨g.B N[i].1,4,none⟩=false:=fun V d=>by
  have o:=h.below d;obtain⟨c,h1,_⟩:=o.gz _ e l;obtain⟨_,_,_,e3,e4,_,ez⟩:=o.lU l h1;exact⟨⟨o.cells.1,e3,e4⟩,ez 4⟩
 have G:∀V,Below w.heap.size w V->Calls prog 254 #[wp (g.B N[i].1)] V fun x k=>x=.returned (.bool true)/\k=V:=fun V d=>by
  have:=(h.below d).oQ l;rw[T] at this;exact this
 have F:∀V,Below w.heap.size w V->Calls prog 256 #[wp g.r,.int .i64 e.node,.int .i64 e.pos,.int .i64 a] V fun y k=>y=.returned (.tuple #[tx (eG D.T e.node e.pos a),aI (jw D.T e.node e.pos a)])/\Below w.heap.size w k:=fun V d=>by
  obtain⟨O,p,_⟩:=(h.below d).tree;refine(p.Eg e.node e.pos a (gT B.1 (by omega))).mono ?_;rintro y k ⟨rfl,z,rfl⟩;exact⟨rfl,⟨d.os,d.tape,d.output,d.size,d.block⟩⟩
 obtain⟨c9,W,_,s⟩:=h.gz _ e l;have HF:Aside (∀V,Below w.heap.size w V->dE w (V.setCell ⟨g.B N[i].1,4,none⟩ (.int .i64 (e.pos+(eG D.T e.node e.pos a).length))) f { D with E:=fun j=>if j=N[i].1 then some { e with pos:=e.pos+(eG D.T e.node e.pos a).length } else D.E j } g b N):=fun V d=>by
  have K:=aV V (g.B N[i].1) 4 (.int .i64 (e.pos+(eG D.T e.node e.pos a).length));exact⟨⟨g,n,M,(h.below d).place l _,(t.below d).sJ (by rw[s];rfl) K,Ext.refl _ _ _⟩,(Wt.below _ d).trans (Wt.grown K (.inl (by rw[s];rfl)))⟩
 have HE:Aside (jw D.T e.node e.pos a≠0->tx (eG D.T e.node e.pos a)=tx []/\∀V,Below w.heap.size w V->dE w V f { D with E:=fun j=>if j=N[i].1 then some { e with pos:=e.pos+(eG D.T e.node e.pos a).length } else D.E j } g b N):=fun r=>by
  rw[OB r];refine⟨rfl,fun V d=>?_⟩;have Z:({ D with E:=fun j=>if j=N[i].1 then some { e with pos:=e.pos+(([]:List UInt8).length:Int) } else D.E j }:DS)=D:=by
   have Y:(fun j=>if j=N[i].1 then some { e with pos:=e.pos+(([]:List UInt8).length:Int) } else D.E j)=D.E:=by
    funext j;by_cases H:j=N[i].1
    ·rw[if_pos H,H,l];simp
    ·rw[if_neg H]
   rw[Y]
  rw[Z];exact h.same t d
 generalize hD2:({ D with E:=fun j=>if j=N[i].1 then some { e with pos:=e.pos+(eG D.T e.node e.pos a).length } else D.E j }:DS)=D2 at *;generalize hS9:eG D.T e.node e.pos a=S9 at *;generalize hC9:jw D.T e.node e.pos a=C9 at *;generalize g.B N[i].1=q at *;generalize e.node=nd at *;generalize e.pos=ps at *;obtain⟨ajv,aju⟩:=v;have HW:Aside (wrap64 (ps+(S9.length:Int))=ps+(S9.length:Int)):=by show wrap64 _=_;unfold wrap64;omega
 go_enter func179,ntmps179
 go_upto_region 6 with (first
  |(go_at_call 253;refine X.mono ?_;rintro y w1 ⟨rfl,I⟩)
  |(go_at_call 254;refine(G _ I).mono ?_;rintro y Q ⟨rfl,S⟩;subst Q))
 obtain⟨C,R⟩:=m _ I;go_region_held3 (fun k=>k.cell? ⟨f,0,none⟩=some (wp g.r)/\k.cell? ⟨q,3,none⟩=some (.int .i64 nd)/\k.cell? ⟨q,4,none⟩=some (.int .i64 ps)) (first|exact C|exact(m _ u).1) (first
  |(go_at_call 256;refine(F _ (zS I)).mono ?_;rintro y w3 ⟨rfl,u⟩))
 all_goals
  obtain⟨⟨_,_,k4⟩,kz⟩:=m _ u;by_cases r:C9=0
  ·have J:=HF.out _ u;have HW9:=HW.out;subst r;rw[show aI 0=.nilIface from rfl];go_wp2_with fail
   go_ret2;exact⟨rfl,J⟩
  ·have L:=HE.out r;have P:Aside (tx S9=tx []/\C9≠0):=⟨L.1,r⟩;rw[ax r];have J:=L.2 _ u;go_wp2_with fail
   go_ret2;exact⟨by rw[P.out.1,ax P.out.2];rfl,J⟩
end
section
variable {w w' w2 w0 w1:World}{f b n q:Nat}{D D':DS}{g g' g1:QG}{M N N':Ns}{d k m:Int}{e:En}{T':Wd}
theorem QF.FZ(h:QF w f D g n)(t:dK w b g M N)(x:Int)(s:List UInt8)(a c:Int)(e:c≠0)(k:Calls prog 253 #[wp f,wp b,.int .i64 x,.int .i64 2] w fun y d=>y=.returned (.tuple #[.pointer none,eF c])/\Below w.heap.size w d):Calls prog 187 #[wp f,wp b,.int .i64 x,tx s,.int .i64 a] w fun y d=>y=.returned (.tuple #[.int .i64 0,aI c])/\dE w d f D g b N:=by
 have i:∀d,Below w.heap.size w d->dE w d f D g b N:=fun d j=>h.same t j;rw[ax e];clear h t e;go_enter func187,ntmps187
 go_wp2_with (go_at_call 253;refine k.mono ?_;rintro y m ⟨rfl,l⟩)
 go_ret2;exact⟨rfl,i _ l⟩
theorem QF.Ny(h:QF w f D g n)(t:dK w b g M N){i:Nat}(L:i<8)(X:i<N.length)(G:0<N[i].1)(u:D.E N[i].1=some e)(s:List UInt8)(a:Int)(z:e.kind≠1)(o:e.af=2\/e.af=3){p:Pi}(v:D.P e.pipe=some p):Calls prog 187 #[wp f,wp b,.int .i64 (i:Int),tx s,.int .i64 a] w fun y l=>y=.returned (.tuple #[.int .i64 (Nc p.2.1 p.1 s:Int),aI (Le p.2.1 p.1 s)])/\dE w l f { D with P:=fun j=>if j=e.pipe then some (I6 p.2.1 p.1 s,p.2.1,p.2.2) else D.P j } g b N:=by
 have O:=h.mo t L X G u 2 (.inr ⟨rfl,o⟩);have r:(e.kind==1)=false:=by simpa using z
 have m:pv g e=wp (g.Q e.pipe):=if_neg z;have B:∀V,Below w.heap.size w V->V.cell? ⟨g.B N[i].1,5,none⟩=some (wp (g.Q e.pipe))/\Calls prog 254 #[wp (g.B N[i].1)] V (fun x l=>x=.returned (.bool false)/\l=V)/\Calls prog 272 #[wp (g.Q e.pipe),tx s] V fun y l=>y=.returned (.tuple #[.int .i64 (Nc p.2.1 p.1 s:Int),aI (Le p.2.1 p.1 s)])/\dE w l f { D with P:=fun j=>if j=e.pipe then some (I6 p.2.1 p.1 s,p.2.1,p.2.2) else D.P j } g b N:=fun V C=>by
  have d:=h.below C;obtain⟨c,T,_⟩:=d.gz _ e u;have H:=(d.lU u T).2.2.2.2.2.1;rw[m] at H;have k:=d.oQ u;rw[r] at k;obtain⟨J,F⟩:=d.pipe _ p v;refine⟨H,k,(J.zk s).mono ?_⟩;rintro y l ⟨rfl,Y,A⟩;exact⟨rfl,⟨⟨g,n,M,d.piped v (x':=(I6 p.2.1 p.1 s,p.2.1,p.2.2)) Y A,(t.below C).sJ (by rw[F];rfl) A,Ext.refl _ _ _⟩,(Wt.below _ C).trans (Wt.grown A (.inl (by rw[F];rfl)))⟩⟩
 generalize ({ D with P:=fun j=>if j=e.pipe then some (I6 p.2.1 p.1 s,p.2.1,p.2.2) else D.P j }:DS)=D2 at *;generalize g.B N[i].1=q at *;generalize g.Q e.pipe=Q at *;generalize aI (Le p.2.1 p.1 s)=U at *;generalize Nc p.2.1 p.1 s=S at *;clear h t z o v u G r m;go_enter func187,ntmps187
 go_wp2_with (first
  |(go_at_call 253;refine O.mono ?_;rintro y w1 ⟨rfl,W⟩;obtain⟨c5,k,E⟩:=B _ W)
  |(go_at_call 254;refine k.mono ?_;rintro y I ⟨rfl,K⟩;subst I)
  |(go_at_call 272;refine E.mono ?_;rintro y Z ⟨rfl,R⟩))
 go_ret2;exact⟨rfl,R⟩
theorem QF.filed(h:QF w f D g n)(c:D.E d=some e)(b:e.kind=1)(V:World)(i:Below w.heap.size w V):Calls prog 254 #[wp (g.B d)] V fun x a=>x=.returned (.bool true)/\a=V:=by
 have:=(h.below i).oQ c;rw[b] at this;exact this
theorem QF.Hm(h:QF w f D g n)(t:dK w b g M N){i:Nat}(K:i<8)(Q:i<N.length)(B:0<N[i].1)(m:D.E N[i].1=some e)(s:List UInt8)(a:Int)(A:e.kind=1)(k:e.af=2\/e.af=3)(r:0<=e.pos/\e.pos<=200)(J:s.length<100000)(l:o5 s a e.pos):Calls prog 187 #[wp f,wp b,.int .i64 (i:Int),tx s,.int .i64 a] w fun y d=>y=.returned (.tuple #[.int .i64 0,eF 4])/\dE w d f D g b N:=by
 have O:=h.mo t K Q B m 2 (.inr ⟨rfl,k⟩);have x:=fun V v=>h.filed m A V v;have u:∀V,Below w.heap.size w V->V.cell? ⟨g.B N[i].1,4,none⟩=some (.int .i64 e.pos):=fun V v=>by
  have o:=h.below v;obtain⟨c,P,_⟩:=o.gz _ e m;exact(o.lU m P).2.2.2.2.1
 have G:∀d,Below w.heap.size w d->dE w d f D g b N:=fun d L=>h.same t L;obtain⟨j,p⟩:=l;have I:a<e.pos+(s.length:Int):=by omega
 have F:wrap64 (e.pos+(s.length:Int))=e.pos+(s.length:Int):=by unfold wrap64;omega
 have H:(s==[])=false:=by simpa using j
 generalize g.B N[i].1=q at *;generalize e.pos=ps at *;clear h t A k m B J r j p;go_enter func187,ntmps187
 go_wp2_with (first
  |(go_at_call 253;refine O.mono ?_;rintro y R ⟨rfl,z⟩;have S:=u _ z)
  |(go_at_call 254;refine(x _ z).mono ?_;rintro y C ⟨rfl,E⟩;subst C))
 go_ret2;exact⟨rfl,G _ z⟩
theorem QF.JL(h:QF w f D g n)(t:dK w b g M N){i:Nat}(hi:i<8)(aG:i<N.length)(h0:0<N[i].1)(A:D.E N[i].1=some e)(s:List UInt8)(a:Int)(hk:e.kind=1)(J:e.af=2\/e.af=3)(K:0<=e.node/\e.node<1000)(Z:0<=e.pos/\e.pos<=200)(hl:s.length<100000)(hT:bu D.T)(z:¬o5 s a e.pos):Calls prog 187 #[wp f,wp b,.int .i64 (i:Int),tx s,.int .i64 a] w fun y d=>(cZ D.T e.node e.pos s≠0/\y=.returned (.tuple #[.int .i64 0,eF (cZ D.T e.node e.pos s)])/\dE w d f D g b N)\/(cZ D.T e.node e.pos s=0/\y=.returned (.tuple #[.int .i64 (s.length:Int),.nilIface])/\dE w d f { D with T:=fU D.T e.node e.pos s,E:=fun j=>if j=N[i].1 then some { e with pos:=e.pos+s.length } else D.E j } g b N):=by
 have hU:=h.mo t hi aG h0 A 2 (.inr ⟨rfl,J⟩);have R:=fun V B=>h.filed A hk V B;have C:∀V,Below w.heap.size w V->(V.cell? ⟨f,0,none⟩=some (wp g.r)/\V.cell? ⟨g.B N[i].1,3,none⟩=some (.int .i64 e.node)/\V.cell? ⟨g.B N[i].1,4,none⟩=some (.int .i64 e.pos)):=fun V B=>by
  have k:=h.below B;obtain⟨c,h1,_⟩:=k.gz _ e A;obtain⟨_,_,_,e3,e4,_,ez⟩:=k.lU A h1;exact⟨k.cells.1,e3,e4⟩
 have x:∀V,Below w.heap.size w V->Calls prog 273 #[wp g.r,.int .i64 e.node,.int .i64 e.pos,tx s] V fun y d=>y=.returned (aI (cZ D.T e.node e.pos s))/\(d.cell? ⟨f,0,none⟩=some (wp g.r)/\d.cell? ⟨g.B N[i].1,3,none⟩=some (.int .i64 e.node)/\d.cell? ⟨g.B N[i].1,4,none⟩=some (.int .i64 e.pos))/\d.frozen? ⟨g.B N[i].1,4,none⟩=false/\(cZ D.T e.node e.pos s≠0->dE w d f D g b N)/\dE w (d.setCell ⟨g.B N[i].1,4,none⟩ (.int .i64 (e.pos+s.length))) f { D with T:=fU D.T e.node e.pos s,E:=fun j=>if j=N[i].1 then some { e with pos:=e.pos+s.length } else D.E j } g b N:=fun V B=>by
  have k:=h.below B;obtain⟨O,p,hO⟩:=k.tree;refine(p.zk hT e.node e.pos s (gT K.1 (by omega)) hl).mono ?_;rintro y d ⟨rfl,O',p',st⟩;have Y:=k.DJ (t.below B) hO p' st;obtain⟨c,h1,_,L⟩:=k.gz _ e A;have Q:d.heap[g.B N[i].1]? = V.heap[g.B N[i].1]? := st.wt.block _ (k.lt _ (by rw[L];rfl)) (fun o=>oZ L (hO _ o) (by simp) rfl);have r:∀o,d.cell? ⟨g.B N[i].1,o,none⟩=V.cell? ⟨g.B N[i].1,o,none⟩:=fun o=>World.cell?_of_block (w:=V) (a:=⟨g.B N[i].1,o,none⟩) Q;obtain⟨_,_,_,e3,e4,_,ez⟩:=k.lU A h1;refine⟨rfl,⟨Y.cell0,by rw[r];exact e3,by rw[r];exact e4⟩,by rw[World.frozen?_of_block (w:=V) (a:=⟨g.B N[i].1,4,none⟩) Q];exact ez 4,fun hE=>?_,?_⟩
  ·have hN:fU D.T e.node e.pos s=D.T:=by unfold fU;rw[if_pos (.inl hE)]
   have:=(Y.upon B).go;rw[hN] at this;exact this
  ·obtain⟨⟨g1,a1,a2,a3,a4,a5,a6⟩,wt⟩:=Y.upon B;have P:({ D with T:=fU D.T e.node e.pos s }:DS).E N[i].1=some e:=A;obtain⟨c1,H,b2,b3⟩:=a1.gz _ e P;have hB1:g1.B N[i].1=g.B N[i].1:=by rw[a6]
   have h2:=a1.place P (e.pos+s.length);rw[hB1] at h2 b3;have gg:=aV d (g.B N[i].1) 4 (.int .i64 (e.pos+s.length));refine dE.after a3 a4 a5 wt ⟨⟨g1,n,M,h2,a2.sJ (by rw[b3];rfl) gg,Ext.refl _ _ _⟩,Wt.grown gg (.inl (by rw[b3];rfl))⟩
 generalize ({ D with T:=fU D.T e.node e.pos s,E:=fun j=>if j=N[i].1 then some { e with pos:=e.pos+s.length } else D.E j }:DS)=D2 at *;generalize cZ D.T e.node e.pos s=C9 at *;generalize g.B N[i].1=q at *;generalize e.node=nd at *;generalize afr:e.pos=ps at *;have W:Aside (wrap64 (ps+(s.length:Int))=ps+(s.length:Int)):=by show wrap64 _=_;unfold wrap64;omega
 have m:s=[]\/(s≠[]/\¬a<ps+(s.length:Int)):=by
  by_cases e1:s=[]
  ·exact .inl e1
  ·refine .inr ⟨e1,fun h9=>z ⟨e1,by omega⟩⟩
 clear h t hk J A h0 hl Z K hT z afr;have HC:Aside (s=[]\/(s≠[]/\¬a<ps+(s.length:Int))):=m;clear m;go_enter func187,ntmps187
 go_upto_region 6 with (first
  |(go_at_call 253;refine hU.mono ?_;rintro y w1 ⟨rfl,H⟩)
  |(go_at_call 254;refine(R _ H).mono ?_;rintro y w2 ⟨rfl,hw2⟩;subst w2))
 have v:=C _ H;obtain⟨c0,c3,c4⟩:=C _ H;clear hU R C;rcases HC.out with rfl|⟨I,hs1⟩
 ·clear HC;go_upto_region 8 with fail
  go_region_held3 (fun d=>d.cell? ⟨f,0,none⟩=some (wp g.r)/\d.cell? ⟨q,3,none⟩=some (.int .i64 nd)/\d.cell? ⟨q,4,none⟩=some (.int .i64 ps)) (first|exact v|exact u) (first
   |(go_at_call 273;refine(x _ (zS H)).mono ?_;rintro y w3 ⟨rfl,u,X,U,S⟩;have G:Aside _:=U;clear U))
  all_goals
   obtain⟨_,_,k4⟩:=u;have HW9:wrap64 ps=ps:=by simpa using W.out
   clear v c0 c3 c4 x W;by_cases l:C9=0
   ·subst l;clear G;rw[show aI 0=.nilIface from rfl];go_wp2_with fail
    go_ret2;exact⟨rfl,by simpa using S⟩
   ·have F:=G.out l;rw[ax l];have HN:Aside (C9≠0):=l;clear l G S;go_wp2_with fail
    go_ret2;exact .inl ⟨HN.out,rfl,F⟩
 ·have hne:(s==[])=false:=by simpa using I
  have HW9:=W.out;clear HC I;go_upto_region 8 with fail
  go_region_held3 (fun d=>d.cell? ⟨f,0,none⟩=some (wp g.r)/\d.cell? ⟨q,3,none⟩=some (.int .i64 nd)/\d.cell? ⟨q,4,none⟩=some (.int .i64 ps)) (first|exact v|exact u) (first
   |(go_at_call 273;refine(x _ (zS H)).mono ?_;rintro y w3 ⟨rfl,u,X,U,S⟩;have G:Aside _:=U;clear U))
  all_goals
   obtain⟨_,_,k4⟩:=u;clear v c0 c3 c4 x W;by_cases l:C9=0
   ·subst l;clear G;rw[show aI 0=.nilIface from rfl];go_wp2_with fail
    go_ret2;exact⟨rfl,S⟩
   ·have F:=G.out l;rw[ax l];have HN:Aside (C9≠0):=l;clear l G S;go_wp2_with fail
    go_ret2;exact .inl ⟨HN.out,rfl,F⟩
end
theorem Stp.cO{w w':World}{A f:Nat->Prop}(st:Stp w w' A f){b o:Nat}{v:Value}(h:w.cell? ⟨b,o,none⟩=some v)(d:¬A b):w'.cell? ⟨b,o,none⟩=some v/\¬f b:=by
 have c:b<w.heap.size:=World.block_lt_of_cell? w _ h;obtain⟨g,j⟩:=st.apart (P:=fun i=>i=b) (fun i e=>by subst e;exact⟨d,c⟩) b rfl;exact⟨by rw[World.cell?_of_block (w:=w) (a:=⟨b,o,none⟩) (st.keep (P:=fun i=>i=b) (fun i e=>by subst e;exact⟨d,c⟩) b rfl)];exact h,g⟩
structure KD (w:World) (m:Int) (f r:Nat) (D:DS) (bs:List Nat) (Ts:List Ns) (k:Nat) (A:Nat->Prop):Prop where
 st:∃g n,QF w f D g n/\g.r=r/\(∀j (h:j<bs.length) (h':j<Ts.length),∃M,dK w bs[j] g M Ts[j])/\∀i,(g.dA i).isSome=true->A i
 len:bs.length=Ts.length
 nd:bs.Nodup
 Vf:∀b∈bs,A b
 inv:Inv D Ts k
 lt:∀i,A i->i<w.heap.size
 ml:w.cell? ⟨4,0,none⟩=some (.int .i64 m)
 mn:¬A 4
 er:w.cell? ⟨0,0,none⟩=some iA
 en:¬A 0
section
variable {w w' w2 w0 w1:World}{f r b n k k' j:Nat}{D D':DS}{g g':QG}{bs:List Nat}{Ts:List Ns}{M N N':Ns}{d m:Int}{A:Nat→Prop}
theorem QF.yF(h:QF w f D g n):p9 D.E n:=by
 obtain⟨m,_,_,r,q,p⟩:=h.map.data;have c:∀x,x∈Go.intKeys m↔(g.K x).isSome=true:=fun x=>by rw[p x,isSome_map]
 refine⟨(Go.intKeys m).map (fun k=>(g.K k).getD 0),?_,by rw[List.length_map,q],fun x=>?_⟩
 ·refine pairwise_map.2 (r.imp_of_mem (fun {a b} j o l e=>l ?_));obtain⟨x,i⟩:=isSome_iff_exists.1 ((c a).1 j);obtain⟨y,d⟩:=isSome_iff_exists.1 ((c b).1 o);rw[i,d] at e;have s:x=y:=e;rw[<-s] at d;exact h.inj a b x i d
 ·constructor
  ·intro i;obtain⟨a,j,rfl⟩:=mem_map.1 i;obtain⟨y,d⟩:=isSome_iff_exists.1 ((c a).1 j);rw[d];exact(h.key a y d).1
  ·intro i;obtain⟨a,j⟩:=h.has x i;exact mem_map.2 ⟨a,(c a).2 (by rw[j];rfl),by rw[j];rfl⟩
theorem QF.few(h:QF w f D g n)(a:Given D):n<10000:=by
 have:=h.yF.few a.n0 a.e;have:=a.n1;omega
theorem KD.call(h:KD w m f r D bs Ts k A)(t:j<bs.length){fn:FuncId}{args:Array Value}{Q:Ending->DS->Ns->Prop}
 (N:∀g n M (W:j<Ts.length),QF w f D g n->dK w bs[j] g M Ts[j]->g.r=r->Calls prog fn args w fun y d=>∃D' N',Q y D' N'/\dE w d f D' g bs[j] N') (P:∀y D' N',Q y D' N'->Inv D' (Ts.set j N') k') :
 Calls prog fn args w fun y d=>∃D' N' I,Q y D' N'/\KD d m f r D' bs (Ts.set j N') k' I/\Stp w d A I:=by
 obtain⟨g,n,R,B,v,F⟩:=h.st;have o:j<Ts.length:=by rw[<-h.len];exact t
 obtain⟨M,J⟩:=v j t o;refine(N g n M o R J B).mono ?_;rintro y d ⟨D',N',E,⟨⟨S,K,V,G,T,u⟩,p⟩⟩;have H:=P y D' N' E;have c:Stp w d A (fun i=>A i\/(w.heap.size<=i/\i<d.heap.size)):=⟨p.mono (fun i a=>by
  rcases a with a|rfl
  ·exact F i a
  ·exact h.Vf _ (getElem_mem t)),fun i a=>by
  rcases a with a|a
  ·exact .inl a
  ·exact .inr a.1⟩
 refine⟨D',N',_,E,⟨⟨S,K,G,u.r.trans B,fun x L e=>?_,fun i a=>?_⟩,by rw[length_set];exact h.len,h.nd,fun b O=>.inl (h.Vf b O),H,fun i a=>?_,(c.cO h.ml h.mn).1,(c.cO h.ml h.mn).2,(c.cO h.er h.en).1,(c.cO h.er h.en).2⟩,c⟩
 ·by_cases l:x=j
  ·subst l;rw[List.getElem_set_self];exact⟨V,T⟩
  ·rw[length_set] at e;obtain⟨U,q⟩:=v x L e;rw[List.getElem_set_ne (Ne.symm l)];have s:x<(Ts.set j N').length:=by rw[length_set];exact e
   have C:=H.live s;rw[List.getElem_set_ne (Ne.symm l)] at C;refine⟨U,q.other u (p.block _ q.tab.lt ?_) C⟩;rintro (z|z)
   ·rw[q.off] at z;cases z
   ·exact l ((List.getElem_inj h.nd).1 z)
 ·by_cases l:i<w.heap.size
  ·rw[u.dA i l] at a;exact .inl (F i a)
  ·exact .inr ⟨by omega,G.lt i a⟩
 ·rcases a with a|a
  ·exact lt_of_lt_of_le (h.lt i a) p.size
  ·exact a.2
theorem KD.below(h:KD w m f r D bs Ts k A)(b:Below w.heap.size w w'):KD w' m f r D bs Ts k A:=by
 obtain⟨g,n,q,e,d,p⟩:=h.st;have a:Stp w w' A A:=.below b;exact⟨⟨g,n,q.below b,e,fun j l c=>by
  obtain⟨M,t⟩:=d j l c;exact⟨M,t.below b⟩,p⟩,h.len,h.nd,h.Vf,h.inv,fun i o=>lt_of_lt_of_le (h.lt i o) b.size,(a.cO h.ml h.mn).1,h.mn,(a.cO h.er h.en).1,h.en⟩
theorem KD.keep(h:KD w m f r D bs Ts k A)(d:∀i,A i->w'.heap[i]? = w.heap[i]?)(c:w.heap.size<=w'.heap.size)(q:w'.cell? ⟨4,0,none⟩=some (.int .i64 m))(s:w'.cell? ⟨0,0,none⟩=some iA):KD w' m f r D bs Ts k A:=by
 obtain⟨g,n,u,p,o,l⟩:=h.st;exact⟨⟨g,n,u.keep (fun i b=>d i (l i b)) c,p,fun j e a=>by
  obtain⟨M,t⟩:=o j e a;exact⟨M,t.keep (d _ (h.Vf _ (getElem_mem e)))⟩,l⟩,h.len,h.nd,h.Vf,h.inv,fun i b=>lt_of_lt_of_le (h.lt i b) c,q,h.mn,s,h.en⟩
theorem KD.jT(h:KD w m f r D bs Ts k A)(a:j<bs.length):j<Ts.length:=by rw[<-h.len];exact a
theorem KD.yF(h:KD w m f r D bs Ts k A):∃n,p9 D.E n:=by
 obtain⟨g,n,a,_⟩:=h.st;exact⟨n,a.yF⟩
theorem KD.gP(h:KD w m f r D bs Ts k A):∃s,dD D.T s:=by
 obtain⟨g,n,a,_⟩:=h.st;obtain⟨O,p,_⟩:=a.tree;exact p.num
theorem KD.aak(h:KD w m f r D bs Ts k A){n:Nat}(c:p9 D.E n):Calls prog 141 #[wp f] w fun y b=>y=.returned (.int .i64 (n:Int))/\b=w:=by
 obtain⟨g,d,a,_⟩:=h.st;rw[c.one a.yF];exact a.rf
theorem KD.used(h:KD w m f r D bs Ts k A)(a:j<bs.length):Calls prog 145 #[wp bs[j]] w fun y b=>y=.returned (.int .i64 (ak (Ts[j]'(h.jT a)):Int))/\Below w.heap.size w b:=by
 obtain⟨g,e,d,_,c,_⟩:=h.st;obtain⟨M,t⟩:=c j a (h.jT a);exact t.xZ d
theorem KD.has(h:KD w m f r D bs Ts k A)(a:j<bs.length)(x:Int):Calls prog 153 #[wp f,wp bs[j],.int .i64 x] w fun y b=>y=.returned (.bool (aJ (Ts[j]'(h.jT a)) x))/\Below w.heap.size w b:=by
 obtain⟨g,e,d,_,c,_⟩:=h.st;obtain⟨M,t⟩:=c j a (h.jT a);exact t.JA d x
theorem KD.nodes(h:KD w m f r D bs Ts k A){s:Nat}(b:dD D.T s):Calls prog 142 #[wp r] w fun y a=>y=.returned (.int .i64 (s:Int))/\a=w:=by
 obtain⟨g,e,d,c,_⟩:=h.st;obtain⟨O,p,_⟩:=d.tree;rw[<-c];exact p.oC b
theorem KD.file(h:KD w m f r D bs Ts k A)(z:k<=890)(v:D.nx<4999)(b:j<bs.length){n s:Nat}(B:p9 D.E n)(i:dD D.T s)(p:List UInt8)(u:p.length<100000)(a:Int)(mk:Bool):Calls prog 175 #[wp f,wp bs[j],tx p,.int .i64 a,.bool mk] w fun y d=>∃D' N' l,(∃x c,y=.returned (.tuple #[.int .i64 x,aI c])/\iM D (Ts[j]'(h.jT b)) n s p a mk x c D' N')/\KD d m f r D' bs (Ts.set j N') (k+2) l/\Stp w d A l:=by
 refine h.call b (Q:=fun y D' N'=>∃x c,y=.returned (.tuple #[.int .i64 x,aI c])/\iM D (Ts[j]'(h.jT b)) n s p a mk x c D' N') (fun g E M e q t _=>?_) (fun y D' N' o=>?_)
 ·obtain rfl:=B.one q.yF;refine(q.nD t ⟨h.inv.core.lv,i,h.inv.core.sm.more (by omega),h.inv.core.jW,h.inv.live e,q.few h.inv.core.jW⟩ p u a mk h.ml h.er).mono ?_;rintro y d ⟨x,c,D',N',rfl,hF,C⟩;exact⟨D',N',⟨x,c,rfl,hF⟩,C⟩
 ·obtain⟨x,c,_,hF⟩:=o;exact h.inv.file z v (h.jT b) i hF
theorem KD.dup(h:KD w m f r D bs Ts k A)(a:j<bs.length)(x:Int):Calls prog 152 #[wp f,wp bs[j],.int .i64 x] w fun y b=>∃D' N' d,(y=.returned (.tuple #[.int .i64 (jr (Ts[j]'(h.jT a)) x),aI (jH (Ts[j]'(h.jT a)) x)])/\D'=lM D (Ts[j]'(h.jT a)) x/\N'=lL (Ts[j]'(h.jT a)) x)/\KD b m f r D' bs (Ts.set j N') k d/\Stp w b A d:=by
 refine h.call a (Q:=fun y D' N'=>y=.returned (.tuple #[.int .i64 (jr (Ts[j]'(h.jT a)) x),aI (jH (Ts[j]'(h.jT a)) x)])/\D'=lM D (Ts[j]'(h.jT a)) x/\N'=lL (Ts[j]'(h.jT a)) x) (fun g l M c q t _=>?_) (fun y D' N' e=>?_)
 ·refine(q.aa4 t x (h.inv.LC c)).mono ?_;rintro y b ⟨rfl,i⟩;exact⟨_,_,⟨rfl,rfl,rfl⟩,i⟩
 ·obtain⟨_,rfl,rfl⟩:=e;exact h.inv.afK (h.jT a) x
theorem KD.ZB(h:KD w m f r D bs Ts k A)(b:j<bs.length)(x a:Int):Calls prog 181 #[wp f,wp bs[j],.int .i64 x,.int .i64 a] w fun y c=>∃D' N' e,(y=.returned (aI (kg D (Ts[j]'(h.jT b)) x a))/\D'=kr D (Ts[j]'(h.jT b)) x a/\N'=Ts[j]'(h.jT b))/\KD c m f r D' bs (Ts.set j N') k e/\Stp w c A e:=by
 refine h.call b (Q:=fun y D' N'=>y=.returned (aI (kg D (Ts[j]'(h.jT b)) x a))/\D'=kr D (Ts[j]'(h.jT b)) x a/\N'=Ts[j]'(h.jT b)) (fun g n M d q t _=>?_) (fun y D' N' i=>?_)
 ·refine(q.Wl t x a (h.inv.live d)).mono ?_;rintro y c ⟨rfl,l⟩;exact⟨_,_,⟨rfl,rfl,rfl⟩,l⟩
 ·obtain⟨_,rfl,rfl⟩:=i;exact(h.inv.ZB (h.jT b) x a).lu (h.jT b)
theorem KD.mark(h:KD w m f r D bs Ts k A)(a:j<bs.length)(x:Int)(c:Bool):Calls prog 172 #[wp f,wp bs[j],.int .i64 x,.bool c] w fun y b=>∃D' N' d,(y=.returned (aI (if aJ (Ts[j]'(h.jT a)) x=true then 0 else 7))/\D'=D/\N'=kR (Ts[j]'(h.jT a)) x c)/\KD b m f r D' bs (Ts.set j N') k d/\Stp w b A d:=by
 refine h.call a (Q:=fun y D' N'=>y=.returned (aI (if aJ (Ts[j]'(h.jT a)) x=true then 0 else 7))/\D'=D/\N'=kR (Ts[j]'(h.jT a)) x c) (fun g n M i q t _=>?_) (fun y D' N' e=>?_)
 ·refine(q.Xm t x c).mono ?_;rintro y b ⟨rfl,l⟩;exact⟨_,_,⟨rfl,rfl,rfl⟩,l⟩
 ·obtain⟨_,rfl,rfl⟩:=e;exact h.inv.mark (h.jT a) x c
end
section
variable {D:DS}
theorem zB(D:DS)(d:Int):(aT D d).nx=D.nx:=by
 unfold aT;split
 ·split
  ·rfl
  ·split<;>rfl
 ·rfl
theorem yl(all:Bool)(D:DS)(N:Ns):∀i,(ah all D N i).1.nx=D.nx
 |0=>rfl
 |i+1=>by
  rw[ah];split
  ·simp only;rw[zB];exact yl all D N i
  ·exact yl all D N i
theorem W9{N:Ns}{n s:Nat}{p:List UInt8}{a:Int}{mk:Bool}{x c:Int}{D':DS}{b:Ns}(h:iM D N n s p a mk x c D' b):D'.nx<=D.nx+3:=by
 cases h<;>(try simp only[jL])<;>omega
theorem WY{N:Ns}{n:Nat}{x y c:Int}{D':DS}{a:Ns}(h:rX D N n x y c D' a):D'.nx<=D.nx+3:=by
 rcases h with⟨_,_,_,_,rfl,_⟩|⟨_,_,_,_,rfl,_⟩
 ·omega
 ·simp only[xg,qA,lV,jL];omega
theorem aaA(D:DS)(N:Ns)(x:Int):(lM D N x).nx=D.nx:=by unfold lM;split<;>rfl
theorem Xa(D:DS)(N:Ns)(x y:Int):(fQ D N x y).nx=D.nx:=by
 unfold fQ;split
 ·split
  ·rfl
  ·rw[zB];rfl
 ·rfl
theorem OU(D:DS)(N:Ns)(x:Int):(iT D N x).nx=D.nx:=by
 unfold iT;split
 ·rw[zB]
 ·rfl
theorem WW(D:DS)(N:Ns)(x a:Int):(kr D N x a).nx=D.nx:=by
 unfold kr;split
 ·split<;>rfl
 ·rfl
theorem WX(D:DS)(N:Ns)(x a:Int):(bR D N x a).2.2.nx=D.nx:=by
 unfold bR;split
 ·split
  ·rfl
  ·split
   ·rfl
   ·split
    ·rfl
    ·split<;>rfl
 ·rfl
theorem TL(D:DS)(N:Ns)(x:Int)(s:List UInt8)(a:Int):(bZ D N x s a).2.2.nx=D.nx:=by
 unfold bZ;split
 ·split
  ·rfl
  ·split
   ·rfl
   ·split
    ·split
     ·rfl
     ·split<;>rfl
    ·split<;>rfl
 ·rfl
end
section
variable {D:DS}{Ts:List Ns}{k j i:Nat}{d:Int}{e:En}
theorem JQ{N:Ns}(h:∀x∈N,¬0<x.1):ak N=0:=by
 unfold ak;rw[List.length_eq_zero_iff,List.filter_eq_nil_iff];intro x a;simp only[decide_eq_true_eq];exact h x a
theorem wP(D:DS)(N:Ns):∀i y,y<i->∀z,(ah true D N i).2[y]? = some z->¬0<z.1
 |0,y,hy,_,_=>by omega
 |i+1,y,hy,z,hz=>by
  rw[ah] at hz;have b:=(iD true D N i).2 i (le_refl _);split at hz
  ·simp only at hz;by_cases e:i=y
   ·subst e;rw[List.getElem?_set_self'] at hz;cases h9:(ah true D N i).2[i]? with
    |none=>rw[h9] at hz;cases hz
    |some q=>rw[h9] at hz;cases hz;simp
   ·rw[List.getElem?_set_ne e] at hz;exact wP D N i y (by omega) z hz
  ·rename_i a
   by_cases e:y=i
   ·subst e;rw[b] at hz;intro c;apply a
    rw[List.getD_eq_getElem?_getD,hz];exact⟨c,.inl rfl⟩
   ·exact wP D N i y (by omega) z hz
theorem PI(D:DS){N:Ns}(c:N.length=8):ak (ah true D N 8).2=0:=JQ (fun x b=>by
 obtain⟨y,a,rfl⟩:=getElem_of_mem b;exact wP D N 8 y (by rw[(iD true D N 8).1,c] at a;exact a) _ (getElem?_eq_getElem a))
end
end
end Go.Proofs.YtippochapiolpaaGreatDoor

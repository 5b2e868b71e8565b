/- A loop over a map that is keyed by texts: which keys are still to come. -/
import Derived.Test.YtippochapiolpaaGreatDoorSKeys
import Derived.Maps.RangeWalk
import Derived.Test.YtippochapiolpaaGreatDoorUTake
import Derived.Sort.KeysCollected
import Derived.Maps.Views
import Derived.Test.YtippochapiolpaaGreatDoorUMkdir
import Derived.Test.YtippochapiolpaaGreatDoorShelfW
import Derived.Test.YtippochapiolpaaGreatDoorDRw
import Derived.Test.YtippochapiolpaaGreatDoorTell
set_option maxHeartbeats 8000000
set_option maxRecDepth 100000
namespace Go.Proofs.YtippochapiolpaaGreatDoor
open Go.RowKit Go.Maps
theorem Bb {key:Value}{kl:Lit}(h:keyOf Tryz.prog 9 key=some kl):∃x:List UInt8,key=.string ⟨x.toArray⟩∧kl=.string x∧x.length≤maxLen:=by
 cases key<;>simp [keyOf,Tryz.underlying9,mapKey] at h
 rename_i s
 exact ⟨s.data.toList,by simp,h.2.symm,by rw [Array.length_toList];exact h.1⟩
section
variable {ops:Array Oper}{rest:List Oper}{o:Oper}{a:Act}{w:World}{Q:Exit→Act→World→Prop}
end
theorem SMap.data {w:World}{g s:Nat}{M:List UInt8→Option Value}(m:SMap w g s M):∃D:DataW Value,w.ownsMap Tryz.prog 9 self g s D∧Maps.size D=s∧(strKeys D).Nodup∧(strKeys D).length=s∧∀x,x∈strKeys D↔(M x).isSome=true:=by
 obtain ⟨D,hown,hs,hS,_⟩:=m
 refine ⟨D,hown,hs,?_⟩
 obtain ⟨es,hD,hpw,_⟩:=hown.entries jl
 obtain ⟨es',hD',hko⟩:=hown.keysOf
 obtain rfl:es=es':=by rw [hD] at hD';simpa using hD'
 have hk:∀p∈es,∃x,p.1=.string x:=fun p hp=>by
  obtain ⟨v,hv⟩:=hko p hp
  obtain ⟨x,_,hx,_⟩:=Bb hv
  exact ⟨x,hx⟩
 have hnd:(es.map fun p=>strOf p.1).Nodup:=by
  refine List.pairwise_map.2 (hpw.imp_of_mem fun {p q} hp hq hne e=>hne ?_)
  obtain ⟨a,ha⟩:=hk p hp
  obtain ⟨d,hd⟩:=hk q hq
  rw [ha,hd] at e ⊢
  exact congrArg _ e
 subst hD
 refine ⟨hnd,by rw [←hs];simp [strKeys,Maps.size],fun x=>?_⟩
 rw [←hS x,has_eq,List.any_eq_true]
 show x∈es.map (fun p=>strOf p.1)↔_
 rw [List.mem_map]
 constructor
 ·rintro ⟨p,hp,rfl⟩
  obtain ⟨a,ha⟩:=hk p hp
  exact ⟨p,hp,by rw [ha];simp [Lit.sameKey,strOf]⟩
 ·rintro ⟨p,hp,hq⟩
  obtain ⟨a,ha⟩:=hk p hp
  rw [ha] at hq
  exact ⟨p,hp,by rw [ha];simpa [Lit.sameKey,strOf] using hq⟩
theorem ltr (a b c:Nm) (h1:decide (a≤b)=true) (h2:decide (b≤c)=true):decide (a≤c)=true:=by
 simp only [decide_eq_true_eq] at *;exact List.le_trans h1 h2
theorem ltl (a b:Nm):(decide (a≤b) || decide (b≤a))=true:=by
 simp only [Bool.or_eq_true,decide_eq_true_eq];exact List.le_total a b
theorem Cx:∀ {a b:List Nm},a.Pairwise (fun x y=>decide (x≤y)=true)→b.Pairwise (fun x y=>decide (x≤y)=true)→a.Perm b→a=b
 | [],b,_,_,hp=>(List.nil_perm.1 hp).symm
 |x :: a,b,ha,hb,hp=>by
  cases b with
  |nil=>exact absurd hp.length_eq (by simp)
  |cons y b=>
   have hxy:x=y:=by
    have hx:x∈y :: b:=hp.mem_iff.1 List.mem_cons_self
    have hy:y∈x :: a:=hp.mem_iff.2 List.mem_cons_self
    rcases List.mem_cons.1 hx with e|hx
    ·exact e
    ·rcases List.mem_cons.1 hy with e|hy
     ·exact e.symm
     ·have h1:=(List.pairwise_cons.1 ha).1 y hy
      have h2:=(List.pairwise_cons.1 hb).1 x hx
      simp only [decide_eq_true_eq] at h1 h2
      exact List.le_antisymm h1 h2
   subst hxy
   rw [Cx (List.pairwise_cons.1 ha).2 (List.pairwise_cons.1 hb).2 (List.perm_cons x |>.1 hp)]
def uz (C:List (Nm×Int)):List Nm:=uN (C.map (·.1))
theorem Pb {C:List (Nm×Int)}(hn:(C.map (·.1)).Nodup) {L:List Nm}(hL:L.Nodup) (hm:∀x,x∈L↔(C.lookup x).isSome=true):uN L=uz C:=by
 have hp:L.Perm (C.map (·.1)):=(List.perm_ext_iff_of_nodup hL hn).2 (fun x=>by
  rw [hm x]
  constructor
  ·intro h
   obtain ⟨n,e⟩:=Option.isSome_iff_exists.1 h
   exact List.mem_map.2 ⟨(x,n),pF e,rfl⟩
  ·intro h
   obtain ⟨⟨y,n⟩,hy,rfl⟩:=List.mem_map.1 h
   rw [tH hn hy];rfl)
 exact Cx (List.pairwise_mergeSort ltr ltl L) (List.pairwise_mergeSort ltr ltl _) ((List.mergeSort_perm L _).trans (hp.trans (List.mergeSort_perm _ _).symm))
theorem Pd (C:List (Nm×Int)):(uz C).length=C.length:=by unfold uz uN;rw [List.length_mergeSort,List.length_map]
end Go.Proofs.YtippochapiolpaaGreatDoor
namespace Go.Proofs.YtippochapiolpaaGreatDoor
open Go.RowKit Go.Maps Go.Sort Go.Shelf
theorem Oc (m:Nat):AnyZ.SortsIn Tryz.prog Tryz.sortedSL_ren Fence.wide m:=
 ⟨fun blk off cap ss W hH hblk hsz=>callsIn_wide.2 (AnyM.slices_Sort_string Tryz.sortSL blk off cap ss W hH hblk hsz),
  fun p cap W=>callsIn_wide.2 (AnyM.slices_Sort_string_none Tryz.sortSL p cap W)⟩
def TxR (w:World) (B:Nat) (v:Value) (L:List Nm):Prop:=w.ownsRow B 9 1 v L.length (L.map encStr)
section
variable {w w':World}{r gN s:Nat}{T:Wd}{Z:Int→Nat}{B G:Int→Nat}{V:Int→Value}{O:Nat→Prop}
theorem PT.Xx (h:PT w r T O) (hT:bu T) (p:List UInt8) (hp:p.length<100000) (m:Int) (hm:w.cell? ⟨4,0,none⟩=some (.int .i64 m)) {C:List (Nm×Int)}(hE:(aF T p).2=0) (hn:T (aF T p).1=some (.dir C)) (hCl:C.length≤1000) :
 Calls Tryz.prog 165 #[wp r,tx p] w fun e w'=>∃v,e=.returned (.tuple #[v,.nilIface])∧TxR w' w.heap.size v (uz C)∧Below w.heap.size w w':=by
 obtain ⟨gN,s,B,G,V,h⟩:=h
 have j6:=hT.toTrOk
 have hs1:=h.num.pos j6
 have hF:=h.find_ok j6 hs1 p hp m hm
 have hkey:=hT.key _ (show (T (aF T p).1).isSome=true by rw [hn];rfl)
 have hwf:(Lit.int .i64 (aF T p).1).wf=true:=gU hkey.1 (by omega)
 rw [hE,aB] at hF
 generalize (aF T p).1=k at *
 have hstep:∀w1,Below w.heap.size w w1→w1.cell? ⟨r,0,none⟩=some (.map (some gN))∧(Instr.lookup 102 (.map (some gN)) (.int .i64 k) false).run Tryz.prog w1=.ok (wp (B k)) w1∧w1.cell? ⟨B k,0,none⟩=some (.map (some (G k)))∧SMap w1 (G k) C.length (fun nm=>(C.lookup nm).map (.int .i64 ·)):=fun w1 b1=>by
  have h1:=h.below b1
  have hlk:=h1.look k hwf
  rw [hn] at hlk
  exact ⟨h1.c0,hlk,(h1.yK hn).1,h1.ll k C hn⟩
 have hS:∀w1,SMap w1 (G k) C.length (fun nm=>(C.lookup nm).map (.int .i64 ·))→CallsIn Fence.wide 5 Tryz.prog 238 #[.func (.func 304) #[] #[.pointer (some ⟨w1.heap.size,0,none⟩)]] (w1.alloc (.cells #[.map (some (G k))] 160)) fun e w'=>∃v,e=.returned v∧TxR w' w1.heap.size v (uz C)∧Below w1.heap.size w1 w':=fun w1 Be=>by
  obtain ⟨D,hown,hsz,hnd,hlen,hmem⟩:=Be.data
  have hseq:SeqGives Fence.wide 2 Tryz.prog 304 #[.pointer (some ⟨w1.heap.size,0,none⟩)] encStr (fun ss=>ss.Perm (strKeys D)) (Maps.size D) (w1.alloc (.cells #[.map (some (G k))] 160)):=
   AnyZ.keys_gives (ρ:=Tryz.keysSL_ren) { Tryz.keysSL with } Fence.wide _ trivial rfl (by omega) w1.heap.size (G k) C.length D _ (by simp) (by simp) (by
    obtain ⟨es,clock,hb,Ft,hs,hD⟩:=hown
    exact ⟨es,clock,(Below.heap_alloc _ _ (G k) (Array.getElem?_eq_some_iff.1 hb).1).trans hb,Ft,hs,hD⟩)
  have cS:=AnyZ.sorted_in Tryz.sortedSL Fence.wide 5 trivial trivial trivial trivial rfl (by omega) (Oc _) (enters_of Tryz.func303 (by kernel_rfl) rfl) 304 #[.pointer (some ⟨w1.heap.size,0,none⟩)] trivial (enters_of Tryz.func304 (by kernel_rfl) rfl) _ _ (by rw [hsz];unfold maxLen;omega) (by omega) _ hseq
  refine CallsIn.mono cS ?_
  rintro e w' ⟨v,ss,rfl,hperm,hrow,_,hb⟩
  have hLn:ss.Nodup:=hperm.nodup_iff.2 hnd
  have hLm:∀x,x∈ss↔(C.lookup x).isSome=true:=fun x=>by rw [hperm.mem_iff,hmem x];cases C.lookup x<;>rfl
  have hone:=Pb (hT.nodup k C hn) hLn hLm
  refine ⟨v,rfl,?_,((Below.refl _ w1).alloc (Nat.le_refl _) _).trans (hb.mono (by simp))⟩
  unfold TxR
  rw [←hone]
  have hl:(uN ss).length=ss.length:=List.length_mergeSort ss
  rw [hl]
  exact ownsRow_base_a hrow (by simp)
 have cK:∀mb W,CallsIn Fence.wide 5 Tryz.prog 239 #[.map mb] W fun e w'=>e=.returned (.func (.func 304) #[] #[.pointer (some ⟨W.heap.size,0,none⟩)])∧w'=W.alloc (.cells #[.map mb] 160):=fun mb W=>AnyZ.keys_in Tryz.keysSL Fence.wide 5 trivial rfl mb W
 have f1:Fence.wide.fn 239:=trivial
 have f2:Fence.wide.fn 238:=trivial
 have f3:Fence.wide.fn 233:=trivial
 have f4:Fence.wide.fn 237:=trivial
 clear hn hT j6 hm h
 refine (callsIn_wide (n:=6)).1 ?_
 refine callsIn_of_wp Tryz.func165 rfl trivial ?_ rfl
 simp only [Tryz.ntmps165,List.size_toArray,List.length_cons,List.length_nil,Nat.reduceAdd,Nat.reduceSub,Array.replicate_succ,Array.replicate_zero,List.push_toArray,List.append_toArray,List.nil_append,List.cons_append]
 gi_wp2_with (first
  |(gi_at_call 233;refine (callsIn_wide.2 hF).mono ?_;rintro e w1 ⟨rfl,b1⟩;obtain ⟨c0,hlk,n0,Be⟩:=hstep w1 b1;have hS1:=hS w1 Be)
  |(gi_at_call 237;refine (callsIn_wide.2 (rH n0)).mono ?_;rintro e w' ⟨rfl,hw'⟩;subst w')
  |(gi_at_call 239;refine (cK _ _).mono ?_;rintro e w' ⟨rfl,hw'⟩;subst w')
  |(gi_at_call 238;refine hS1.mono ?_;rintro e w2 ⟨v,rfl,ht,b2⟩))
 go_ret2
 exact ⟨v,rfl,ownsRow_base_a ht b1.size,b1.trans (b2.mono b1.size)⟩
theorem PT.Xy (h:PT w r T O) (hT:bu T) (p:List UInt8) (hp:p.length<100000) (m:Int) (hm:w.cell? ⟨4,0,none⟩=some (.int .i64 m)) (hE:mZ T p≠0) :
 Calls Tryz.prog 165 #[wp r,tx p] w fun e w'=>e=.returned (.tuple #[.slice none 0 0,eQ (mZ T p)])∧Below w.heap.size w w':=by
 obtain ⟨gN,s,B,G,V,h⟩:=h
 have j6:=hT.toTrOk
 have hs1:=h.num.pos j6
 have hF:=h.find_ok j6 hs1 p hp m hm
 have hsome:=mH j6 (p:=p)
 unfold mZ at hE ⊢
 by_cases hf:(aF T p).2=0
 ·rw [if_neg (fun e=>e hf)] at hE ⊢
  have hs:=hsome hf
  have hkey:=hT.key _ hs
  have hwf:(Lit.int .i64 (aF T p).1).wf=true:=gU hkey.1 (by omega)
  rw [hf,aB] at hF
  generalize (aF T p).1=n at *
  have hdr:¬nV T n=true:=fun e=>hE (by rw [if_pos e])
  rw [if_neg hdr]
  obtain ⟨b,x,hn⟩:=tL hs hdr
  have hstep:∀w1,Below w.heap.size w w1→w1.cell? ⟨r,0,none⟩=some (.map (some gN))∧(Instr.lookup 102 (.map (some gN)) (.int .i64 n) false).run Tryz.prog w1=.ok (wp (B n)) w1∧w1.cell? ⟨B n,0,none⟩=some (.map none):=fun w1 b1=>by
   have h1:=h.below b1
   have hlk:=h1.look n hwf
   rw [hn] at hlk
   exact ⟨h1.c0,hlk,(h1.ql hn).1⟩
  clear hE hdr hn
  go_enter Tryz.func165,Tryz.ntmps165
  go_wp2_with (first
   |(go_at_call 233;refine hF.mono ?_;rintro e w1 ⟨rfl,b1⟩;obtain ⟨c0,hlk,n0⟩:=hstep w1 b1)
   |(go_at_call 237;refine (u6 n0).mono ?_;rintro e w' ⟨rfl,hw'⟩;subst w'))
  go_ret2
  exact ⟨rfl,b1⟩
 ·rw [if_pos hf] at hE ⊢
  rw [ax hf] at hF
  generalize (aF T p).2=z at *
  generalize (aF T p).1=n at *
  clear hsome
  go_enter Tryz.func165,Tryz.ntmps165
  go_wp2_with (go_at_call 233;refine hF.mono ?_;rintro e w1 ⟨rfl,b1⟩)
  go_ret2
  exact ⟨rfl,b1⟩
end
end Go.Proofs.YtippochapiolpaaGreatDoor
namespace Go.Proofs.YtippochapiolpaaGreatDoor
open Go.RowKit Go.Maps
def Sm (k:Nat) (T:Wd):Prop:=(∀i C,T i=some (.dir C)→C.length≤k)∧∀i b x,T i=some (.file b x)→x≤k∧b.length≤200
section
variable {T:Wd}{k:Nat}
theorem Sm.more (h:Sm k T) {k':Nat}(hk:k≤k'):Sm k' T:=⟨fun i C e=>Nat.le_trans (h.1 i C e) hk,fun i b x e=>⟨Nat.le_trans (h.2 i b x e).1 hk,(h.2 i b x e).2⟩⟩
theorem Sm.set (h:Sm k T) (n:Int) {nd:Nd}(hd:∀C,nd=.dir C→C.length≤k) (hf:∀b x,nd=.file b x→x≤k∧b.length≤200):Sm k (cB T n nd):=by
 refine ⟨fun i C e=>?_,fun i b x e=>?_⟩
 ·by_cases e1:i=n
  ·subst e1;rw [aj] at e;exact hd C (Option.some.inj e)
  ·rw [ag _ e1] at e;exact h.1 i C e
 ·by_cases e1:i=n
  ·subst e1;rw [aj] at e;exact hf b x (Option.some.inj e)
  ·rw [ag _ e1] at e;exact h.2 i b x e
theorem Sm.add (h:Sm k T) (d n:Int) (nm:Nm):Sm (k+1) (gz T d nm n):=by
 cases hd:T d with
 |none=>rw [show gz T d nm n=T by unfold gz;rw [hd]];exact h.more (by omega)
 |some nd=>cases nd with
  |file b x=>rw [show gz T d nm n=T by unfold gz;rw [hd]];exact h.more (by omega)
  |dir C=>
   rw [j5 hd]
   exact (h.more (Nat.le_succ k)).set d (fun C' e=>by cases e;have:=h.1 d C hd;simp;omega) (fun b x e=>by cases e)
theorem Sm.del (h:Sm k T) (d:Int) (nm:Nm):Sm k (aZ T d nm):=by
 cases hd:T d with
 |none=>rw [show aZ T d nm=T by unfold aZ;rw [hd]];exact h
 |some nd=>cases nd with
  |file b x=>rw [show aZ T d nm=T by unfold aZ;rw [hd]];exact h
  |dir C=>
   rw [jD hd]
   exact h.set d (fun C' e=>by cases e;exact Nat.le_trans (List.length_filter_le _ _) (h.1 d C hd)) (fun b x e=>by cases e)
theorem Sm.Q8 (h:Sm k T):Sm k (iQ T):=⟨fun i C e=>h.1 i C (zZ e),fun i b x e=>h.2 i b x (zZ e)⟩
theorem Sm.link (h:Sm k T) (p q:List UInt8):Sm (k+1) (kS T p q):=by
 unfold kS;split
 ·exact h.more (by omega)
 ·exact h.add _ _ _
theorem Sm.unlink (h:Sm k T) (p:List UInt8):Sm (k+1) (fF T p):=by
 unfold fF;split
 ·exact h.more (by omega)
 ·exact ((h.del _ _).Q8).more (by omega)
theorem Sm.rename (h:Sm k T) (p q:List UInt8):Sm (k+1) (fG T p q):=by
 unfold fG;split
 ·exact h.more (by omega)
 ·exact (h.del _ _).add _ _ _
theorem Sm.make (h:Sm k T) (p:List UInt8) (dir:Bool) (n:Int):Sm (k+1) (je T p dir n):=by
 unfold je
 refine (h.set n ?_ ?_).add _ _ _
 ·intro C e;cases dir<;>(simp [fT] at e);rw [e];simp
 ·intro b x e;cases dir<;>(simp [fT] at e);rw [e.1,←e.2];simp
theorem Sm.hold (h:Sm k T) (n by':Int) (hb:by'≤1):Sm (k+1) (dh T n by'):=by
 unfold dh
 split
 ·rename_i b x e
  split
  ·exact h.more (by omega)
  ·refine ((h.more (Nat.le_succ k)).set n (fun C e9=>by cases e9) (fun b' x' e9=>?_)).Q8
   cases e9
   have:=h.2 n b x e;exact ⟨by omega,this.2⟩
 ·exact h.more (by omega)
theorem Sm.write (h:Sm k T) (n a:Int) (x:List UInt8):Sm (k+1) (gp T n a x):=by
 unfold gp
 by_cases hh:cZ T n a x≠0∨x=[]
 ·rw [if_pos hh];exact h.more (by omega)
 ·rw [if_neg hh]
  cases e:T n with
  |none=>exact h.more (by omega)
  |some nd=>cases nd with
   |dir C=>exact h.more (by omega)
   |file b y=>
    simp only
    refine (h.set n (fun C e9=>by cases e9) (fun b' x' e9=>?_)).more (by omega)
    cases e9
    have h2:=h.2 n b y e
    refine ⟨h2.1,?_⟩
    have hE:cZ T n a x=0:=by
     by_cases e9:cZ T n a x=0
     ·exact e9
     ·exact absurd (.inl e9) hh
    unfold cZ at hE
    have hf:bF T n=0:=by unfold bF;rw [e]
    rw [if_neg (fun e=>e hf)] at hE
    by_cases ha:a<0
    ·rw [if_pos ha] at hE;omega
    ·rw [if_neg ha] at hE
     by_cases hl:(200:Int)<x.length∨200-(x.length:Int)<a
     ·rw [if_pos hl] at hE;omega
     ·rw [Cw];omega
theorem bu.hold (hT:bu T) (n:Int) {by':Int}(hb:by'=1∨by'=-1) (hx:∀b x,T n=some (.file b x)→x+1≤1000):bu (dh T n by'):=by
 by_cases hz:bF T n=0
 ·obtain ⟨b,x,hn⟩:=mJ hz
  rcases hb with rfl|rfl
  ·have hT':=hT.Ja (b':=b) (x':=x+1) hn (hT.small n b x hn).1 (hx b x hn) (.inl (by omega))
   have hN:dh T n 1=cB T n (.file b (x+1)):=by
    unfold dh;rw [hn];simp only
    rw [if_neg (by omega),show ((x:Int)+1).toNat=x+1 by omega]
    exact zY hT'.toTrOk hT'.lv
   rw [hN];exact hT'
  ·cases x with
   |zero=>
    have hN:dh T n (-1)=T:=by unfold dh;rw [hn];simp only;rw [if_pos (by omega)]
    rw [hN];exact hT
   |succ x=>exact (CZ hT hn).2.2
 ·have hN:dh T n by'=T:=by
   unfold dh
   cases hn:T n with
   |none=>rfl
   |some nd=>cases nd with
    |dir C=>rfl
    |file b x=>exact absurd (by unfold bF;rw [hn]) hz
  rw [hN];exact hT
theorem bu.Oo (hT:bu T) {n:Int}{b b':List UInt8}{x:Nat}(hn:T n=some (.file b x)) (hb:b'.length≤256):bu (cB T n (.file b' x)):=by
 refine hT.Ja hn hb (hT.small n b x hn).2 ?_
 rcases hT.lv n _ hn with e|e|e
 ·exact absurd e (Ex hT.toTrOk hn)
 ·exact .inr e
 ·exact .inl e
theorem bu.write (hT:bu T) (n a:Int) (x:List UInt8):bu (gp T n a x):=by
 unfold gp
 split
 ·exact hT
 ·rename_i hh
  split
  ·rename_i b y e
   refine hT.Oo e ?_
   have hE:cZ T n a x=0:=by
    by_cases e9:cZ T n a x=0
    ·exact e9
    ·exact absurd (.inl e9) hh
   have hs:=(hT.small n b y e).1
   unfold cZ at hE
   have hf:bF T n=0:=by unfold bF;rw [e]
   rw [if_neg (fun e=>e hf)] at hE
   by_cases ha:a<0
   ·rw [if_pos ha] at hE;omega
   ·rw [if_neg ha] at hE
    by_cases hl:(200:Int)<x.length∨200-(x.length:Int)<a
    ·rw [if_pos hl] at hE;omega
    ·rw [Cw];omega
  ·exact hT
theorem bu.make (hT:bu T) {s:Nat}{p:List UInt8}(hE:aY T s p=0) {n:Int}(hn:gq T n) (h1:n<64) (dir:Bool):bu (je T p dir n):=by
 obtain ⟨_,⟨C,hd,hl⟩,hnm,_⟩:=mF hT.toTrOk hE
 exact (CG hT dir hd hl hnm hn.none hn.pos h1).2.2.2
end
def jr (D:DS) (d:Int):DS:={ D with R:=fun j=>if j=d then some ((D.R j).getD 0+1) else D.R j }
theorem ML {D:DS}{d c:Int}(hc:D.R d=some c):jr D d={ D with R:=fun j=>if j=d then some (c+1) else D.R j }:=by
 unfold jr
 congr 1
 funext j
 split
 ·rename_i e;rw [e,hc];rfl
 ·rfl
structure Cl (D:DS) (d:Int) (e:En) (c:Int):Prop extends CanClose D d e c where
 lv:bu D.T
def Live (D:DS) (N:Ns):Prop:=∀i (hi:i<N.length),0<N[i].1→(D.E N[i].1).isSome=true
section
variable {D:DS}{d:Int}{e:En}
theorem xK {c:Int}(hc:CanClose D d e c) (hm:0<c-1):aT D d={ D with R:=fun i=>if i=d then some (c-1) else D.R i }:=by
 unfold aT;rw [hc.gF,hc.cnt];simp only;rw [if_pos hm]
theorem xL {c:Int}(hc:CanClose D d e c) (hm:¬0<c-1) (hk:e.kind=1):aT D d={ T:=dh D.T e.node (-1),E:=fun i=>if i=d then none else D.E i,R:=fun i=>if i=d then none else if i=d then some (c-1) else D.R i,P:=D.P,nx:=D.nx }:=by
 unfold aT;rw [hc.gF,hc.cnt];simp only;rw [if_neg hm,if_pos hk]
theorem AY {c:Int}(hc:CanClose D d e c) (hm:¬0<c-1) (hk:e.kind≠1):aT D d={ T:=D.T,E:=fun i=>if i=d then none else D.E i,R:=fun i=>if i=d then none else if i=d then some (c-1) else D.R i,P:=fun i=>if i=e.pipe then some (rU ((D.P e.pipe).getD ([],0,0)) e.kind) else D.P i,nx:=D.nx }:=by
 unfold aT;rw [hc.gF,hc.cnt];simp only;rw [if_neg hm,if_neg hk]
end
def sF (d:Int) (N:Ns):Nat:=(N.filter (fun x=>x.1 == d)).length
def jw (d:Int) (Ts:List Ns):Nat:=(Ts.map (sF d)).sum
theorem MZ (d:Int) (N:Ns):sF d N≤N.length:=List.length_filter_le _ _
theorem G9:∀(N:Ns) (d:Int) (i:Nat) (y:Int×Bool) (h:i<N.length),sF d (N.set i y)+(if N[i].1=d then 1 else 0)=sF d N+(if y.1=d then 1 else 0)
 | [],_,i,_,h=>by simp at h
 |x :: N,d,0,y,h=>by
  simp only [List.set_cons_zero,List.getElem_cons_zero,sF,List.filter_cons]
  by_cases e1:x.1=d<;>by_cases e2:y.1=d<;>simp [e1,e2]
 |x :: N,d,i+1,y,h=>by
  have ih:=G9 N d i y (by simpa using h)
  simp only [List.set_cons_succ,List.getElem_cons_succ]
  unfold sF at ih ⊢
  rw [List.filter_cons,List.filter_cons]
  by_cases e1:x.1=d
  ·simp only [e1,beq_self_eq_true,if_true,List.length_cons];omega
  ·simp only [beq_eq_false_iff_ne.2 e1,Bool.false_eq_true,if_false];omega
theorem G8:∀(Ts:List Ns) (d:Int) (j:Nat) (N':Ns) (h:j<Ts.length),jw d (Ts.set j N')+sF d Ts[j]=jw d Ts+sF d N'
 | [],_,j,_,h=>by simp at h
 |x :: Ts,d,0,N',h=>by simp [jw];omega
 |x :: Ts,d,j+1,N',h=>by
  have ih:=G8 Ts d j N' (by simpa using h)
  simp only [List.set_cons_succ,List.getElem_cons_succ]
  unfold jw at ih ⊢
  simp only [List.map_cons,List.sum_cons]
  omega
theorem qL {Ts:List Ns}{j i:Nat}(hj:j<Ts.length) (hi:i<Ts[j].length) (d:Int) (y:Int×Bool):jw d (Ts.set j (Ts[j].set i y))+(if Ts[j][i].1=d then 1 else 0)=jw d Ts+(if y.1=d then 1 else 0):=by
 have h1:=G8 Ts d j (Ts[j].set i y) hj
 have h2:=G9 Ts[j] d i y hi
 omega
theorem MX:∀(d:Int) (Ts:List Ns),(∀N∈Ts,N.length=8)→jw d Ts≤8*Ts.length
 |_,[],_=>Nat.zero_le _
 |d,x :: Ts,h=>by
  have ih:=MX d Ts (fun N hN=>h N (List.mem_cons_of_mem _ hN))
  have h1:=MZ d x
  have h2:=h x List.mem_cons_self
  unfold jw at ih ⊢
  simp only [List.map_cons,List.sum_cons,List.length_cons]
  omega
theorem UX {N:Ns}{i:Nat}(hi:i<N.length):0<sF N[i].1 N:=List.length_pos_of_mem (List.mem_filter.2 ⟨List.getElem_mem hi,by simp⟩)
theorem fP:∀ {Ts:List Ns}{j i:Nat}(hj:j<Ts.length) (hi:i<Ts[j].length),0<jw Ts[j][i].1 Ts
 |x :: Ts,0,i,_,hi=>by
  have:=UX (N:=x) (i:=i) hi
  simp only [jw,List.map_cons,List.sum_cons,List.getElem_cons_zero]
  omega
 |x :: Ts,j+1,i,hj,hi=>by
  have ih:=fP (Ts:=Ts) (j:=j) (i:=i) (by simpa using hj) hi
  simp only [jw,List.map_cons,List.sum_cons,List.getElem_cons_succ] at ih ⊢
  omega
structure mW (D:DS) (C:Int→Nat) (k:Nat):Prop where
 jW:Given D
 lv:bu D.T
 sm:Sm k D.T
 gF:∀d e,D.E d=some e→DD D e
 cE:∀d,0<d→((D.E d).isSome=true↔0<C d)
 cR:∀d,0<d→D.R d=if 0<C d then some (C d:Int) else none
section
variable {D:DS}{C C':Int→Nat}{k:Nat}{d:Int}{e:En}
theorem mW.congr (h:mW D C k) (hc:∀d,0<d→C d=C' d):mW D C' k:=
 ⟨h.jW,h.lv,h.sm,h.gF,fun d hd=>by rw [←hc d hd];exact h.cE d hd,fun d hd=>by rw [←hc d hd];exact h.cR d hd⟩
theorem mW.more (h:mW D C k) {k':Nat}(hk:k≤k'):mW D C k':=⟨h.jW,h.lv,h.sm.more hk,h.gF,h.cE,h.cR⟩
theorem mW.cl (h:mW D C k) (hd:0<d) (hc:0<C d) (hb:C d<100000):∃e,Cl D d e (C d):=by
 obtain ⟨e,he⟩:=Option.isSome_iff_exists.1 ((h.cE d hd).2 hc)
 have ok:=h.gF d e he
 have hg:=h.jW.e d (by rw [he];rfl)
 have hn:=h.jW.n1
 refine ⟨e,⟨hd,by omega,he,by rw [h.cR d hd,if_pos hc],by omega,by omega,ok.kind,fun hk=>?_,fun hk=>?_⟩,h.lv⟩
 ·have:=ok.file hk;omega
 ·obtain ⟨a1,a2,p,a3,a4,a5,a6,a7,a8⟩:=ok.pipe hk
  exact ⟨by omega,by omega,p,a3,a4,a5,a6,a7,a8⟩
theorem DD.keep {D D':DS}(h:DD D e) (hn:D.nx≤D'.nx) (hP:∀p x,D.P p=some x→x.1.length≤16→0≤x.2.1→x.2.1<1000→0≤x.2.2→x.2.2<1000→∃y,D'.P p=some y∧y.1.length≤16∧0≤y.2.1∧y.2.1<1000∧0≤y.2.2∧y.2.2<1000):DD D' e:=by
 refine ⟨h.kind,h.file,h.aR,h.into,fun hk=>?_⟩
 obtain ⟨a1,a2,p,a3,a4,a5,a6,a7,a8⟩:=h.pipe hk
 exact ⟨a1,by omega,hP _ p a3 a4 a5 a6 a7 a8⟩
theorem DD.same {D D':DS}(h:DD D e) (hn:D.nx≤D'.nx) (hP:D'.P=D.P):DD D' e:=h.keep hn (fun p x a b c d e f=>⟨x,by rw [hP];exact a,b,c,d,e,f⟩)
theorem mW.inc (h:mW D C k) (hd:0<d) (hc:0<C d):mW (jr D d) (fun x=>if x=d then C d+1 else C x) k:=by
 have hR:D.R d=some (C d:Int):=by rw [h.cR d hd,if_pos hc]
 rw [ML hR]
 refine ⟨⟨h.jW.n0,h.jW.n1,h.jW.e,fun x hx=>?_,h.jW.p⟩,h.lv,h.sm,fun x ex hx=>(h.gF x ex hx).same (Int.le_refl _) rfl,fun x hx=>?_,fun x hx=>?_⟩
 ·have hx':(if x=d then some ((C d:Int)+1) else D.R x).isSome=true:=hx
  by_cases e1:x=d
  ·subst e1;exact h.jW.r x (by rw [hR];rfl)
  ·rw [if_neg e1] at hx';exact h.jW.r x hx'
 ·show (D.E x).isSome=true↔0<(if x=d then C d+1 else C x)
  rw [h.cE x hx]
  by_cases e1:x=d
  ·subst e1;simp [hc]
  ·rw [if_neg e1]
 ·show (if x=d then some ((C d:Int)+1) else D.R x)=_
  by_cases e1:x=d
  ·subst e1
   simp
  ·rw [if_neg e1,h.cR x hx]
   simp only [if_neg e1]
theorem Sm.drop {T:Wd}(h:Sm k T) (n:Int):Sm k (dh T n (-1)):=by
 unfold dh
 split
 ·rename_i b x e
  split
  ·exact h
  ·refine (h.set n (fun C e9=>by cases e9) (fun b' x' e9=>?_)).Q8
   cases e9
   have:=h.2 n b x e;exact ⟨by omega,this.2⟩
 ·exact h
theorem mW.close (h:mW D C k) (hk:k≤900) (hd:0<d) (hc:0<C d) (hb:C d<100000):mW (aT D d) (fun x=>if x=d then C d-1 else C x) k:=by
 obtain ⟨e,cl⟩:=h.cl hd hc hb
 have hgd:=h.jW.e d (by rw [cl.gF];rfl)
 by_cases hm:0<((C d:Int))-1
 ·rw [xK cl.toCanClose hm]
  refine ⟨⟨h.jW.n0,h.jW.n1,h.jW.e,fun x hx=>?_,h.jW.p⟩,h.lv,h.sm,fun x ex hx=>(h.gF x ex hx).same (Int.le_refl _) rfl,fun x hx=>?_,fun x hx=>?_⟩
  ·have hx':(if x=d then some ((C d:Int)-1) else D.R x).isSome=true:=hx
   by_cases e1:x=d
   ·subst e1;exact hgd
   ·rw [if_neg e1] at hx';exact h.jW.r x hx'
  ·show (D.E x).isSome=true↔0<(if x=d then C d-1 else C x)
   rw [h.cE x hx]
   by_cases e1:x=d
   ·subst e1;rw [if_pos rfl];omega
   ·rw [if_neg e1]
  ·show (if x=d then some ((C d:Int)-1) else D.R x)=_
   by_cases e1:x=d
   ·subst e1
    simp only [if_true]
    rw [if_pos (by omega)]
    congr 1;omega
   ·rw [if_neg e1,h.cR x hx]
    simp only [if_neg e1]
 ·have hc1:C d=1:=by omega
  have hE:∀x,0<x→((if x=d then none else D.E x:Option En).isSome=true↔0<(if x=d then C d-1 else C x)):=fun x hx=>by
   by_cases e1:x=d
   ·subst e1;simp [hc1]
   ·rw [if_neg e1,if_neg e1];exact h.cE x hx
  have hR:∀x,0<x→(if x=d then none else if x=d then some ((C d:Int)-1) else D.R x)=if 0<(if x=d then C d-1 else C x) then some (((if x=d then C d-1 else C x:Nat)):Int) else none:=fun x hx=>by
   by_cases e1:x=d
   ·subst e1;simp [hc1]
   ·rw [if_neg e1,if_neg e1,h.cR x hx]
    simp only [if_neg e1]
  have hgE:∀x,(if x=d then none else D.E x:Option En).isSome=true→0<x∧x≤D.nx:=fun x hx=>by
   by_cases e1:x=d
   ·rw [if_pos e1] at hx;cases hx
   ·rw [if_neg e1] at hx;exact h.jW.e x hx
  have hgR:∀x,(if x=d then none else if x=d then some ((C d:Int)-1) else D.R x:Option Int).isSome=true→0<x∧x≤D.nx:=fun x hx=>by
   by_cases e1:x=d
   ·rw [if_pos e1] at hx;cases hx
   ·rw [if_neg e1,if_neg e1] at hx;exact h.jW.r x hx
  by_cases hkd:e.kind=1
  ·rw [xL cl.toCanClose hm hkd]
   refine ⟨⟨h.jW.n0,h.jW.n1,hgE,hgR,h.jW.p⟩,h.lv.hold e.node (.inr rfl) (fun b x hx=>by have:=(h.sm.2 _ b x hx).1;omega),h.sm.drop _,fun x ex hx=>?_,hE,hR⟩
   have hx':(if x=d then none else D.E x:Option En)=some ex:=hx
   by_cases e1:x=d
   ·rw [if_pos e1] at hx';cases hx'
   ·rw [if_neg e1] at hx';exact (h.gF x ex hx').same (Int.le_refl _) rfl
  ·obtain ⟨a1,a2,p,a3,a4,a5,a6,a7,a8⟩:=(h.gF d e cl.gF).pipe hkd
   rw [AY cl.toCanClose hm hkd]
   refine ⟨⟨h.jW.n0,h.jW.n1,hgE,hgR,fun x hx=>?_⟩,h.lv,h.sm,fun x ex hx=>?_,hE,hR⟩
   ·have hx':(if x=e.pipe then some (rU ((D.P e.pipe).getD ([],0,0)) e.kind) else D.P x).isSome=true:=hx
    by_cases e1:x=e.pipe
    ·rw [e1];exact ⟨a1,a2⟩
    ·rw [if_neg e1] at hx';exact h.jW.p x hx'
   ·have hx':(if x=d then none else D.E x:Option En)=some ex:=hx
    by_cases e1:x=d
    ·rw [if_pos e1] at hx';cases hx'
    ·rw [if_neg e1] at hx'
     refine (h.gF x ex hx').keep (Int.le_refl _) (fun q y b1 b2 b3 b4 b5 b6=>?_)
     by_cases e2:q=e.pipe
     ·refine ⟨rU p e.kind,by show (if q=e.pipe then some (rU ((D.P e.pipe).getD ([],0,0)) e.kind) else D.P q)=_;rw [if_pos e2,a3];rfl,?_⟩
      unfold rU VB VA
      simp only
      refine ⟨a4,?_,?_,?_,?_⟩<;>(split<;>omega)
     ·exact ⟨y,(if_neg e2).trans b1,b2,b3,b4,b5,b6⟩
theorem K4 {x:Int}(h:((aT D d).E x).isSome=true):(D.E x).isSome=true:=by
 unfold aT at h
 split at h
 ·split at h
  ·exact h
  ·split at h
   ·have h':(if x=d then none else D.E x:Option En).isSome=true:=h
    by_cases e1:x=d
    ·rw [if_pos e1] at h';cases h'
    ·rw [if_neg e1] at h';exact h'
   ·have h':(if x=d then none else D.E x:Option En).isSome=true:=h
    by_cases e1:x=d
    ·rw [if_pos e1] at h';cases h'
    ·rw [if_neg e1] at h';exact h'
 ·exact h
end
section
variable {w w' w2:World}{f b n:Nat}{D D':DS}{g g':QG}{M N N':Ns}{d k:Int}{e:En}
theorem QF.Ko (h:QF w f D g n):Calls Tryz.prog 225 #[wp f,.int .i64 0] w fun x w'=>x=.returned (.tuple #[])∧w'=w:=by
 have c1:=h.cells.2
 have hlk:=h.look (k:=0) (by omega) (by omega)
 rw [Et h.k0] at hlk
 have h9:=sN f
 have h8:=Ez
 go_enter Tryz.func225,Tryz.ntmps225
 go_wp2_with fail
 refine bodyPost_ret (results_none rfl _ _ _) rfl ?_
 exact ⟨rfl,rfl⟩
theorem QF.Kq (h:QF w f D g n) (hk:g.K k=some d) {c:Int}(hc:CanClose D d e c) (hm:0<c-1):Calls Tryz.prog 225 #[wp f,.int .i64 k] w fun x w'=>x=.returned (.tuple #[])∧(∃g' n',QF w' f (aT D d) g' n'∧Ext w (aT D d) g g')∧Wt (fun i=>(g.dC i).isSome=true) w w':=by
 obtain ⟨_,hk0,hk1⟩:=h.key k d hk
 have c1:=h.cells.2
 have hlk:=h.look (k:=k) (by omega) hk1
 rw [uO hk] at hlk
 have h9:=sN f
 have h8:=DU (g.B d)
 obtain ⟨_,_,e2,_,_,_,ez⟩:=h.lU hc.gF hc.cnt
 have ez2:=ez 2
 obtain ⟨_,_,_,hkb⟩:=h.gF d e hc.gF
 have h1:=h.count hc.gF (c-1)
 have g1:=aV w (g.B d) 2 (.int .i64 (c-1))
 obtain ⟨_,_,e2',_,_,_,_⟩:=h1.lU hc.gF (if_pos rfl)
 rw [xK hc hm]
 have hfin:(∃g' n',QF (w.setCell ⟨g.B d,2,none⟩ (.int .i64 (c-1))) f { D with R:=fun i=>if i=d then some (c-1) else D.R i } g' n'∧Ext w { D with R:=fun i=>if i=d then some (c-1) else D.R i } g g')∧Wt (fun i=>(g.dC i).isSome=true) w (w.setCell ⟨g.B d,2,none⟩ (.int .i64 (c-1))):=⟨⟨g,n,h1,Ext.refl _ _ _⟩,Wt.grown g1 (by rw [hkb];rfl)⟩
 have hw1:wrap64 (c-1)=c-1:=by have:=hc.c0;have:=hc.c1;unfold wrap64;omega
 have hz:((c-1:Int) == 0)=false:=by simp;omega
 generalize ({ D with R:=fun i=>if i=d then some (c-1) else D.R i }:DS)=D2 at *
 generalize g.B d=q at *
 go_enter Tryz.func225,Tryz.ntmps225
 go_wp2_with fail
 go_end0
 exact ⟨rfl,hfin⟩
structure LvS (w w2 w3:World) (f:Nat) (g:QG) (D:DS) (k d c:Int) (e:En):Prop where
 c1:w.cell? ⟨f,1,none⟩=some (.map (some g.gO))
 lk:(Instr.lookup 105 (.map (some g.gO)) (.int .i64 k) false).run Tryz.prog w=.ok (wp (g.B d)) w
 e2:w.cell? ⟨g.B d,2,none⟩=some (.int .i64 c)
 ez:w.frozen? ⟨g.B d,2,none⟩=false
 e2':(w.setCell ⟨g.B d,2,none⟩ (.int .i64 (c-1))).cell? ⟨g.B d,2,none⟩=some (.int .i64 (c-1))
 c1':(w.setCell ⟨g.B d,2,none⟩ (.int .i64 (c-1))).cell? ⟨f,1,none⟩=some (.map (some g.gO))
 del:∀ty,(Builtin.delete_ #[105,3] ty #[.map (some g.gO),.int .i64 k]).run Tryz.prog (w.setCell ⟨g.B d,2,none⟩ (.int .i64 (c-1)))=.ok (.tuple #[]) w3
 wt:Wt (fun i=>(g.dC i).isSome=true) w w3
 tag:g.dC (g.B d)=some (.gF d)
 blk:w3.heap[g.B d]? = some (.cells (kN g e (c-1)) 296)
 st:∃n',QF w3 f { D with E:=fun i=>if i=d then none else D.E i,R:=fun i=>if i=d then none else if i=d then some (c-1) else D.R i } { g with K:=fun i=>if i=k then none else g.K i } n'
theorem QF.leaving (h:QF w f D g n) (hk:g.K k=some d) {c:Int}(hc:CanClose D d e c):∃w3,LvS w w w3 f g D k d c e:=by
 obtain ⟨_,hk0,hk1⟩:=h.key k d hk
 have hlk:=h.look (k:=k) (by omega) hk1
 rw [uO hk] at hlk
 obtain ⟨_,_,e2,_,_,_,ez⟩:=h.lU hc.gF hc.cnt
 obtain ⟨c9,hc9,hblk,hkb⟩:=h.gF d e hc.gF
 have h1:=h.count hc.gF (c-1)
 have g1:=aV w (g.B d) 2 (.int .i64 (c-1))
 obtain ⟨_,_,e2',_,_,_,_⟩:=h1.lU hc.gF (if_pos rfl)
 obtain ⟨w3,hdel,pm,g3⟩:=MS h1.map Tryz.underlying105 k (gU (by omega) (by omega))
 have h3:=h1.gone hk pm g3
 refine ⟨w3,h.cells.2,hlk,e2,ez 2,e2',h1.cells.2,hdel,(Wt.grown g1 (by rw [hkb];rfl)).trans (Wt.grown g3 (by rw [h.tm];rfl)),hkb,?_,_,h3⟩
 rw [g3.block _ (h1.lt _ (by rw [hkb];rfl)) (fun x=>oZ hkb h.tm (by simp) (Option.some.inj x))]
 exact GZ hblk _
theorem GX {w3:World}(hk:g.K k=some d) (hE:D'.E d=none) (hg:g'.K=fun i=>if i=k then none else g.K i) (hka:∀i,i<w.heap.size→g'.dC i=g.dC i) (hr:g'.r=g.r) (_:w3=w3):Ext w D' g g':=by
 refine ⟨hka,fun i x hi hx=>?_,hr⟩
 rw [hg]
 show (if i=k then none else g.K i)=some x
 by_cases e1:i=k
 ·rw [e1,hk] at hi
  rw [←Option.some.inj hi,hE] at hx
  cases hx
 ·rw [if_neg e1];exact hi
theorem QF.Kr (h:QF w f D g n) (hk:g.K k=some d) {c:Int}(hc:Cl D d e c) (hm:¬0<c-1):Calls Tryz.prog 225 #[wp f,.int .i64 k] w fun x w'=>x=.returned (.tuple #[])∧(∃g' n',QF w' f (aT D d) g' n'∧Ext w (aT D d) g g')∧Wt (fun i=>(g.dC i).isSome=true) w w':=by
 obtain ⟨w3,L⟩:=h.leaving hk hc.toCanClose
 obtain ⟨n',h3⟩:=L.st
 have hsz:=L.wt.size
 have hSh:Calls Tryz.prog 294 #[wp f,wp (g.B d)] w3 fun x w'=>x=.returned (.tuple #[])∧(∃g' n',QF w' f (aT D d) g' n'∧Ext w (aT D d) g g')∧Wt (fun i=>(g.dC i).isSome=true) w w':=by
  by_cases hkd:e.kind=1
  ·have hpv:pv g e=.pointer none:=if_pos hkd
   have hnd:=hc.node hkd
   refine (h3.Oi (q:=g.B d) L.blk L.tag hkd hc.lv hnd.1 hnd.2).mono ?_
   rintro x w' ⟨rfl,⟨g',a1,a2,a3,a4⟩,wt⟩
   rw [xL hc.toCanClose hm hkd]
   exact ⟨rfl,⟨g',n',a1,GX (w3:=w3) hk (if_pos rfl) a3 (fun i hi=>a2 i (by omega)) a4 rfl⟩,L.wt.trans wt⟩
  ·obtain ⟨q0,q1,p,hp,hpl,f0,f1,i0,i1⟩:=hc.pipe hkd
   have hpv:pv g e=wp (g.Q e.pipe):=if_neg hkd
   have hblk:=L.blk
   rw [kN,hpv] at hblk
   refine (h3.Ta (q:=g.B d) (p:=e.pipe) hblk L.tag hkd hp ⟨f0,f1⟩ ⟨i0,i1⟩).mono ?_
   rintro x w' ⟨rfl,a1,wt⟩
   rw [AY hc.toCanClose hm hkd,hp]
   exact ⟨rfl,⟨_,n',a1,GX (w3:=w3) hk (if_pos rfl) rfl (fun i hi=>rfl) rfl rfl⟩,L.wt.trans wt⟩
 have hc1:c=1:=by have:=hc.c0;omega
 subst hc1
 have c1:=L.c1
 have hlk:=L.lk
 have e2:=L.e2
 have ez:=L.ez
 have e2':=L.e2'
 have c1':=L.c1'
 have hdel:=L.del
 have h9:=sN f
 have h8:=DU (g.B d)
 generalize aT D d=D2 at *
 simp only [show (1:Int)-1=0 by omega] at e2' c1' hdel
 generalize g.B d=q at *
 go_enter Tryz.func225,Tryz.ntmps225
 go_wp2_with (go_at_call 294;refine hSh.mono ?_;rintro x w4 ⟨rfl,hR⟩)
 go_end0
 exact ⟨rfl,hR⟩
theorem QF.GH (h:QF w f D g n) (hk:g.K k=some d) {c:Int}(hc:Cl D d e c):Calls Tryz.prog 225 #[wp f,.int .i64 k] w fun x w'=>x=.returned (.tuple #[])∧(∃g' n',QF w' f (aT D d) g' n'∧Ext w (aT D d) g g')∧Wt (fun i=>(g.dC i).isSome=true) w w':=by
 by_cases hm:0<c-1
 ·exact h.Kq hk hc.toCanClose hm
 ·exact h.Kr hk hc hm
theorem QF.nC (h:QF w f D g n) (t:dM w b g M N) {i:Nat}(hi:i<8) (aG:i<N.length) (h0:0<N[i].1) {c:Int}(hc:Cl D N[i].1 e c) (hl:Live (aT D N[i].1) (N.set i (0,false))) :
 Calls Tryz.prog 220 #[wp f,wp b,.int .i64 (i:Int)] w fun x w'=>x=.returned (.tuple #[])∧dG w w' f (aT D N[i].1) g b (N.set i (0,false)):=by
 have hM:i<M.length:=by have:=t.tab.len;omega
 have hk:=t.keyOf hM aG h0
 obtain ⟨t0,t1⟩:=t.tab.at hi
 have z0:=t.tab.free (i*2)
 have z1:=t.tab.free (i*2+1)
 have hT1:=t.set (i:=i) (0,false) (0,false) (t.tab.put hi (0,false) ⟨by simp,by simp,fun _=>rfl⟩) ⟨rfl,.inl ⟨rfl,rfl⟩⟩
 have g1:=QT.Cq w b i (.int .i64 0) (.bool false)
 have h1:=h.DR t.off g1
 obtain ⟨W,hW⟩:∃W,(w.setCell ⟨b,i*2,none⟩ (.int .i64 0)).setCell ⟨b,i*2+1,none⟩ (.bool false)=W:=⟨_,rfl⟩
 simp only at hT1
 rw [hW] at hT1 g1 h1
 have hL:=h1.GH hk hc
 have hfin:∀w',(∃g' n',QF w' f (aT D N[i].1) g' n'∧Ext W (aT D N[i].1) g g')→Wt (fun i=>(g.dC i).isSome=true) W w'→dG w w' f (aT D N[i].1) g b (N.set i (0,false)):=fun w' hx wt=>by
  obtain ⟨g',n',a1,a2⟩:=hx
  have hsz:W.heap.size=w.heap.size:=by rw [←hW];simp [World.setCell]
  refine ⟨⟨g',n',_,a1,hT1.other a2 (wt.block b hT1.tab.lt (by rw [t.off];simp)) hl,⟨fun j hj=>a2.dC j (by omega),a2.key,a2.r⟩⟩,(Wt.grown g1 (.inr rfl)).trans (wt.mono (fun j hj=>.inl hj))⟩
 generalize aT D N[i].1=D2 at *
 generalize N.set i (0,false)=N2 at *
 generalize M[i].1=X at *
 generalize M[i].2=Y at *
 have hi8:(i:Int)<8:=by omega
 go_enter Tryz.func220,Tryz.ntmps220
 go_upto_region 2 with fail
 go_wp2_with (go_at_call 225;refine hL.mono ?_;rintro x w4 ⟨rfl,hR,wt⟩)
 go_end0
 exact ⟨rfl,hfin _ hR wt⟩
end
section
variable {w w' w2:World}{f b n:Nat}{D D':DS}{g g':QG}{M N N':Ns}{d k:Int}{e:En}
theorem QF.same (h:QF w f D g n) (t:dM w b g M N) (hb:Below w.heap.size w w'):dG w w' f D g b N:=⟨⟨g,n,M,h.below hb,t.below hb,Ext.refl _ _ _⟩,Wt.below _ hb⟩
theorem dG.upon (hb:Below w.heap.size w w') (h:dG w' w2 f D' g b N'):dG w w2 f D' g b N':=by
 obtain ⟨⟨g',n',M',a,c,x⟩,wt⟩:=h
 exact ⟨⟨g',n',M',a,c,⟨fun i hi=>x.dC i (Nat.lt_of_lt_of_le hi hb.size),x.key,x.r⟩⟩,(Wt.below _ hb).trans wt⟩
theorem QF.U3 (h:QF w f D g n) (t:dM w b g M N) (x:Int) (hx:aJ N x=false):Calls Tryz.prog 148 #[wp f,wp b,.int .i64 x] w fun y w'=>y=.returned (eQ 7)∧dG w w' f D g b N:=by
 have hF:=h.j4 t x hx
 have hs:∀w',Below w.heap.size w w'→dG w w' f D g b N:=fun w' hb=>h.same t hb
 go_enter Tryz.func148,Tryz.ntmps148
 go_wp2_with (go_at_call 219;refine hF.mono ?_;rintro y w1 ⟨rfl,b1⟩)
 go_ret
 exact ⟨rfl,hs _ b1⟩
theorem QF.zM (h:QF w f D g n) (t:dM w b g M N) {i:Nat}(hi:i<8) (aG:i<N.length) (h0:0<N[i].1) {c:Int}(hc:Cl D N[i].1 e c) (hl:Live (aT D N[i].1) (N.set i (0,false))) :
 Calls Tryz.prog 148 #[wp f,wp b,.int .i64 (i:Int)] w fun y w'=>y=.returned .nilIface∧dG w w' f (aT D N[i].1) g b (N.set i (0,false)):=by
 have hF:=h.ay t hi aG h0
 have vQ:∀V,Below w.heap.size w V→Calls Tryz.prog 220 #[wp f,wp b,.int .i64 (i:Int)] V fun x w'=>x=.returned (.tuple #[])∧dG w w' f (aT D N[i].1) g b (N.set i (0,false)):=fun V hV=>by
  refine ((h.below hV).nC (t.below hV) hi aG h0 hc hl).mono ?_
  rintro x w' ⟨rfl,hG⟩
  exact ⟨rfl,hG.upon hV⟩
 generalize aT D N[i].1=D2 at *
 generalize N.set i (0,false)=N2 at *
 generalize g.B N[i].1=q at *
 go_enter Tryz.func148,Tryz.ntmps148
 go_wp2_with (first
  |(go_at_call 219;refine hF.mono ?_;rintro y w1 ⟨rfl,b1⟩)
  |(go_at_call 220;refine (vQ _ b1).mono ?_;rintro y w2 ⟨rfl,hG⟩))
 go_ret
 exact ⟨rfl,hG⟩
theorem QF.Xr (h:QF w f D g n) (t:dM w b g M N) (x:Int) (c:Bool):Calls Tryz.prog 172 #[wp f,wp b,.int .i64 x,.bool c] w fun y w'=>y=.returned (aI (if aJ N x=true then 0 else 7))∧dG w w' f D g b (kR N x c):=by
 by_cases hx:aJ N x=true
 ·obtain ⟨i,rfl,hi,aG,h0⟩:=dX hx t.len
  rw [if_pos hx]
  have hmN:kR N i c=N.set i (N[i].1,c):=by
   unfold kR
   rw [if_pos hx,getD_in aG,show (i:Int).toNat=i by omega]
  rw [hmN]
  have hM:i<M.length:=by have:=t.tab.len;omega
  have hk:=t.keyOf hM aG h0
  obtain ⟨_,hk0,_⟩:=h.key _ _ hk
  have hF:=h.ay t hi aG h0
  have hfin:∀V,Below w.heap.size w V→(∃u,V.cell? ⟨b,i*2+1,none⟩=some u)∧V.frozen? ⟨b,i*2+1,none⟩=false∧dG w (V.setCell ⟨b,i*2+1,none⟩ (.bool c)) f D g b (N.set i (N[i].1,c)):=fun V hV=>by
   have tV:=t.below hV
   have t2:=tV.set (i:=i) (M[i].1,c) (N[i].1,c) (tV.tab.mark hi c (by omega)) ⟨rfl,.inr ⟨h0,hk⟩⟩
   have gg:=aV V b (i*2+1) (.bool c)
   exact ⟨⟨_,(tV.tab.at hi).2⟩,tV.tab.free _,⟨⟨g,n,_,(h.below hV).DR t.off gg,t2,Ext.refl _ _ _⟩,(Wt.below _ hV).trans (Wt.grown gg (.inr rfl))⟩⟩
  generalize N.set i (N[i].1,c)=N2 at *
  generalize g.B N[i].1=q at *
  have hi8:(i:Int)<8:=by omega
  go_enter Tryz.func172,Tryz.ntmps172
  go_upto_region 4 with (go_at_call 219;refine hF.mono ?_;rintro y w1 ⟨rfl,b1⟩)
  obtain ⟨⟨u,c1⟩,z1,hG⟩:=hfin _ b1
  go_wp2_with fail
  go_ret
  exact ⟨rfl,hG⟩
 ·have hx':aJ N x=false:=by simpa using hx
  rw [if_neg hx,show kR N x c=N from if_neg hx]
  have hF:=h.j4 t x hx'
  have hs:∀w',Below w.heap.size w w'→dG w w' f D g b N:=fun w' hb=>h.same t hb
  go_enter Tryz.func172,Tryz.ntmps172
  go_wp2_with (go_at_call 219;refine hF.mono ?_;rintro y w1 ⟨rfl,b1⟩)
  go_ret
  exact ⟨rfl,hs _ b1⟩
theorem QF.Ws (h:QF w f D g n) (t:dM w b g M N) (x a:Int) (hL:Live D N):Calls Tryz.prog 181 #[wp f,wp b,.int .i64 x,.int .i64 a] w fun y w'=>y=.returned (aI (kg D N x a))∧dG w w' f (kr D N x a) g b N:=by
 by_cases hx:aJ N x=true
 ·obtain ⟨i,rfl,hi,aG,h0⟩:=dX hx t.len
  obtain ⟨e,he⟩:=Option.isSome_iff_exists.1 (hL i aG h0)
  have hF:=h.ay t hi aG h0
  have hI:∀V,Below w.heap.size w V→Calls Tryz.prog 254 #[wp (g.B N[i].1)] V fun x w'=>x=.returned (.bool (e.kind == 1))∧w'=V:=fun V hV=>(h.below hV).oQ he
  have hE1:kg D N i a=if e.kind≠1 then 6 else if 0≤a∧a≤200 then 0 else 2:=by
   unfold kg;rw [if_pos hx,getD_in aG,he]
  have hD0:kg D N i a≠0→kr D N i a=D:=fun h=>if_neg h
  by_cases hk:e.kind=1
  ·rw [hk] at hI
   rw [if_neg (fun z=>z hk)] at hE1
   by_cases ha:0≤a∧a≤200
   ·rw [if_pos ha] at hE1
    have hD1:kr D N i a={ D with E:=fun j=>if j=N[i].1 then some { e with pos:=a } else D.E j }:=by
     unfold kr;rw [if_pos hE1,getD_in aG,he]
    rw [hE1,hD1]
    obtain ⟨c,hc,_,hkb⟩:=h.gF _ e he
    have hfin:∀V,Below w.heap.size w V→(∃u,V.cell? ⟨g.B N[i].1,4,none⟩=some u)∧V.frozen? ⟨g.B N[i].1,4,none⟩=false∧dG w (V.setCell ⟨g.B N[i].1,4,none⟩ (.int .i64 a)) f { D with E:=fun j=>if j=N[i].1 then some { e with pos:=a } else D.E j } g b N:=fun V hV=>by
     have hV':=h.below hV
     obtain ⟨_,_,_,_,e4,_,ez⟩:=hV'.lU he hc
     have gg:=aV V (g.B N[i].1) 4 (.int .i64 a)
     exact ⟨⟨_,e4⟩,ez 4,⟨⟨g,n,M,hV'.place he a,(t.below hV).sJ (by rw [hkb];rfl) gg,Ext.refl _ _ _⟩,(Wt.below _ hV).trans (Wt.grown gg (.inl (by rw [hkb];rfl)))⟩⟩
    generalize ({ D with E:=fun j=>if j=N[i].1 then some { e with pos:=a } else D.E j }:DS)=D2 at *
    generalize g.B N[i].1=q at *
    obtain ⟨ha0,ha1⟩:=ha
    go_enter Tryz.func181,Tryz.ntmps181
    go_upto_region 8 with (first
     |(go_at_call 219;refine hF.mono ?_;rintro y w1 ⟨rfl,b1⟩)
     |(go_at_call 254;refine (hI _ b1).mono ?_;rintro y w2 ⟨rfl,hw2⟩;subst w2))
    obtain ⟨⟨u,c1⟩,z1,hG⟩:=hfin _ b1
    go_wp2_with fail
    go_ret
    exact ⟨rfl,hG⟩
   ·rw [if_neg ha] at hE1
    rw [hD0 (by rw [hE1];decide),hE1]
    have hs:∀w',Below w.heap.size w w'→dG w w' f D g b N:=fun w' hb=>h.same t hb
    generalize g.B N[i].1=q at *
    by_cases ha0:a<0
    ·clear ha
     go_enter Tryz.func181,Tryz.ntmps181
     go_wp2_with (first
      |(go_at_call 219;refine hF.mono ?_;rintro y w1 ⟨rfl,b1⟩)
      |(go_at_call 254;refine (hI _ b1).mono ?_;rintro y w2 ⟨rfl,hw2⟩;subst w2))
     go_ret
     exact ⟨rfl,hs _ b1⟩
    ·have ha1:200<a:=by omega
     go_enter Tryz.func181,Tryz.ntmps181
     go_wp2_with (first
      |(go_at_call 219;refine hF.mono ?_;rintro y w1 ⟨rfl,b1⟩)
      |(go_at_call 254;refine (hI _ b1).mono ?_;rintro y w2 ⟨rfl,hw2⟩;subst w2))
     go_ret
     exact ⟨rfl,hs _ b1⟩
  ·rw [if_pos hk] at hE1
   rw [hD0 (by rw [hE1];decide),hE1]
   have hk':(e.kind == 1)=false:=by simpa using hk
   rw [hk'] at hI
   have hs:∀w',Below w.heap.size w w'→dG w w' f D g b N:=fun w' hb=>h.same t hb
   generalize g.B N[i].1=q at *
   go_enter Tryz.func181,Tryz.ntmps181
   go_wp2_with (first
    |(go_at_call 219;refine hF.mono ?_;rintro y w1 ⟨rfl,b1⟩)
    |(go_at_call 254;refine (hI _ b1).mono ?_;rintro y w2 ⟨rfl,hw2⟩;subst w2))
   go_ret
   exact ⟨rfl,hs _ b1⟩
 ·have hx':aJ N x=false:=by simpa using hx
  have hE1:kg D N x a=7:=if_neg hx
  rw [show kr D N x a=D from if_neg (by rw [hE1];decide),hE1]
  have hF:=h.j4 t x hx'
  have hs:∀w',Below w.heap.size w w'→dG w w' f D g b N:=fun w' hb=>h.same t hb
  go_enter Tryz.func181,Tryz.ntmps181
  go_wp2_with (go_at_call 219;refine hF.mono ?_;rintro y w1 ⟨rfl,b1⟩)
  go_ret
  exact ⟨rfl,hs _ b1⟩
end
structure Inv (D:DS) (Ts:List Ns) (k:Nat):Prop where
 core:mW D (fun d=>jw d Ts) k
 tab:∀N∈Ts,N.length=8∧∀x∈N,0≤x.1∧(x.1=0→x.2=false)
 few:Ts.length≤500
def yN (D:DS) (N:Ns):Prop:=∀i (hi:i<N.length),0<N[i].1→∃e c,D.E N[i].1=some e∧D.R N[i].1=some c∧0≤c∧c<100000
section
variable {D:DS}{Ts:List Ns}{k j i:Nat}{d:Int}{e:En}
theorem yN.live {N:Ns}(h:yN D N):Live D N:=fun i hi h0=>by
 obtain ⟨e,c,h1,_⟩:=h i hi h0
 rw [h1];rfl
theorem Inv.more (h:Inv D Ts k) {k':Nat}(hk:k≤k'):Inv D Ts k':=⟨h.core.more hk,h.tab,h.few⟩
theorem Inv.len (h:Inv D Ts k) (hj:j<Ts.length):Ts[j].length=8:=(h.tab _ (List.getElem_mem hj)).1
theorem Inv.LC (h:Inv D Ts k) (d:Int):jw d Ts≤4000:=by
 have:=MX d Ts (fun N hN=>(h.tab N hN).1)
 have:=h.few
 omega
theorem Inv.cl (h:Inv D Ts k) (hj:j<Ts.length) (hi:i<Ts[j].length) (h0:0<Ts[j][i].1):∃e,Cl D Ts[j][i].1 e (jw Ts[j][i].1 Ts):=
 h.core.cl h0 (fP hj hi) (by have:=h.LC Ts[j][i].1;omega)
theorem Inv.LD (h:Inv D Ts k) (hj:j<Ts.length):yN D Ts[j]:=fun i hi h0=>by
 obtain ⟨e,c⟩:=h.cl hj hi h0
 exact ⟨e,_,c.gF,c.cnt,by omega,c.c1⟩
theorem Inv.live (h:Inv D Ts k) (hj:j<Ts.length):Live D Ts[j]:=(h.LD hj).live
theorem uG {P:Ns→Prop}{N':Ns}(h:∀N∈Ts,P N) (hN:P N'):∀N∈Ts.set j N',P N:=fun N hm=>by
 rcases List.mem_or_eq_of_mem_set hm with h1|h1
 ·exact h N h1
 ·rw [h1];exact hN
theorem uJ {N:Ns}(h:N.length=8∧∀x∈N,0≤x.1∧(x.1=0→x.2=false)) (y:Int×Bool) (hy:0≤y.1∧(y.1=0→y.2=false)):(N.set i y).length=8∧∀x∈N.set i y,0≤x.1∧(x.1=0→x.2=false):=by
 refine ⟨by rw [List.length_set];exact h.1,fun x hx=>?_⟩
 rcases List.mem_or_eq_of_mem_set hx with h1|h1
 ·exact h.2 x h1
 ·rw [h1];exact hy
theorem Inv.close (h:Inv D Ts k) (hk:k≤900) (hj:j<Ts.length) (hi:i<Ts[j].length) (h0:0<Ts[j][i].1):Inv (aT D Ts[j][i].1) (Ts.set j (Ts[j].set i (0,false))) k:=by
 have hb:=h.LC Ts[j][i].1
 refine ⟨(h.core.close hk h0 (fP hj hi) (by omega)).congr (fun x hx=>?_),uG h.tab (uJ (h.tab _ (List.getElem_mem hj)) _ ⟨by simp,fun _=>rfl⟩),by rw [List.length_set];exact h.few⟩
 have ht:=qL hj hi x (0,false)
 have hp:=fP hj hi
 simp only at ht ⊢
 rw [if_neg (show ¬(0:Int)=x by omega)] at ht
 by_cases e1:x=Ts[j][i].1
 ·rw [if_pos e1]
  rw [if_pos e1.symm] at ht
  rw [←e1]
  omega
 ·rw [if_neg e1]
  rw [if_neg (fun z=>e1 z.symm)] at ht
  omega
theorem Inv.dup (h:Inv D Ts k) (hj:j<Ts.length) (hi:i<Ts[j].length) (h0:Ts[j][i].1=0) (hd:0<d) (hc:0<jw d Ts) (c:Bool):Inv (jr D d) (Ts.set j (Ts[j].set i (d,c))) k:=by
 refine ⟨(h.core.inc hd hc).congr (fun x hx=>?_),uG h.tab (uJ (h.tab _ (List.getElem_mem hj)) _ ⟨by simp;omega,fun z=>by simp at z;omega⟩),by rw [List.length_set];exact h.few⟩
 have ht:=qL hj hi x (d,c)
 simp only at ht ⊢
 rw [h0,if_neg (show ¬(0:Int)=x by omega)] at ht
 by_cases e1:x=d
 ·subst e1
  rw [if_pos rfl] at ht ⊢
  omega
 ·rw [if_neg e1]
  rw [if_neg (fun z=>e1 z.symm)] at ht
  omega
theorem Inv.dup2 (h:Inv D Ts k) (hk:k≤900) (hj:j<Ts.length) (hi:i<Ts[j].length) (h0:0<Ts[j][i].1) (hd:0<d) (hc:0<jw d Ts):Inv (aT (jr D d) Ts[j][i].1) (Ts.set j (Ts[j].set i (d,false))) k∧∃e c,Cl (jr D d) Ts[j][i].1 e c:=by
 have h1:=h.core.inc hd hc
 have hp:=fP hj hi
 have hb:=h.LC Ts[j][i].1
 have hb2:(if Ts[j][i].1=d then jw d Ts+1 else jw Ts[j][i].1 Ts)<100000:=by
  by_cases e1:Ts[j][i].1=d
  ·rw [if_pos e1,←e1];omega
  ·rw [if_neg e1];omega
 have hp2:0<(if Ts[j][i].1=d then jw d Ts+1 else jw Ts[j][i].1 Ts):=by
  by_cases e1:Ts[j][i].1=d
  ·rw [if_pos e1];omega
  ·rw [if_neg e1];omega
 obtain ⟨e,cl⟩:=h1.cl h0 hp2 hb2
 refine ⟨⟨(h1.close hk h0 hp2 hb2).congr (fun x hx=>?_),uG h.tab (uJ (h.tab _ (List.getElem_mem hj)) _ ⟨by simp;omega,fun z=>by simp at z;omega⟩),by rw [List.length_set];exact h.few⟩,e,_,cl⟩
 have ht:=qL hj hi x (d,false)
 simp only at ht ⊢
 by_cases e1:x=Ts[j][i].1
 ·rw [if_pos e1]
  rw [if_pos e1.symm] at ht
  rw [←e1]
  by_cases e2:x=d
  ·subst e2
   rw [if_pos rfl] at ht ⊢
   omega
  ·rw [if_neg e2]
   rw [if_neg (fun z=>e2 z.symm)] at ht
   omega
 ·rw [if_neg e1]
  rw [if_neg (fun z=>e1 z.symm)] at ht
  by_cases e2:x=d
  ·subst e2
   rw [if_pos rfl] at ht ⊢
   omega
  ·rw [if_neg e2]
   rw [if_neg (fun z=>e2 z.symm)] at ht
   omega
theorem Inv.mark (h:Inv D Ts k) (hj:j<Ts.length) (x:Int) (c:Bool):Inv D (Ts.set j (kR Ts[j] x c)) k:=by
 unfold kR
 split
 ·rename_i hx
  obtain ⟨i,rfl,hi,aG,h0⟩:=dX hx (h.len hj)
  rw [getD_in aG,show (i:Int).toNat=i by omega]
  refine ⟨h.core.congr (fun x hx=>?_),uG h.tab (uJ (h.tab _ (List.getElem_mem hj)) _ ⟨by simp;omega,fun z=>by simp at z;omega⟩),by rw [List.length_set];exact h.few⟩
  have ht:=qL hj aG x (Ts[j][i].1,c)
  simp only at ht ⊢
  omega
 ·rw [List.set_getElem_self];exact h
theorem Inv.QV (h:Inv D Ts k) (he:D.E d=some e) {e':En}(hok:DD D e'):Inv { D with E:=fun i=>if i=d then some e' else D.E i } Ts k:=by
 have hs:∀x,(if x=d then some e' else D.E x).isSome=(D.E x).isSome:=fun x=>by
  by_cases e1:x=d
  ·rw [if_pos e1,e1,he];rfl
  ·rw [if_neg e1]
 refine ⟨⟨⟨h.core.jW.n0,h.core.jW.n1,fun x hx=>h.core.jW.e x (by rw [←hs];exact hx),h.core.jW.r,h.core.jW.p⟩,h.core.lv,h.core.sm,fun x ex hx=>?_,fun x hx=>by show (if x=d then some e' else D.E x).isSome=true↔_;rw [hs];exact h.core.cE x hx,h.core.cR⟩,h.tab,h.few⟩
 have hx':(if x=d then some e' else D.E x)=some ex:=hx
 by_cases e1:x=d
 ·rw [if_pos e1] at hx'
  obtain rfl:=Option.some.inj hx'
  exact hok.same (Int.le_refl _) rfl
 ·rw [if_neg e1] at hx'
  exact (h.core.gF x ex hx').same (Int.le_refl _) rfl
theorem Inv.dE (h:Inv D Ts k) {p:Int}{x y:Pi}(hp:D.P p=some x) (hy:y.1.length≤16∧0≤y.2.1∧y.2.1<1000∧0≤y.2.2∧y.2.2<1000):Inv { D with P:=fun i=>if i=p then some y else D.P i } Ts k:=by
 refine ⟨⟨⟨h.core.jW.n0,h.core.jW.n1,h.core.jW.e,h.core.jW.r,fun q hq=>?_⟩,h.core.lv,h.core.sm,fun q ex hx=>(h.core.gF q ex hx).keep (Int.le_refl _) (fun r z a b c d e f=>?_),h.core.cE,h.core.cR⟩,h.tab,h.few⟩
 ·have hq':(if q=p then some y else D.P q).isSome=true:=hq
  by_cases e1:q=p
  ·rw [e1];exact h.core.jW.p p (by rw [hp];rfl)
  ·rw [if_neg e1] at hq';exact h.core.jW.p q hq'
 ·by_cases e1:r=p
  ·exact ⟨y,if_pos e1,hy⟩
  ·exact ⟨z,(if_neg e1).trans a,b,c,d,e,f⟩
theorem Inv.Nk (h:Inv D Ts k) {T':Wd}{k':Nat}(hT:bu T') (hs:Sm k' T'):Inv { D with T:=T' } Ts k':=
 ⟨⟨⟨h.core.jW.n0,h.core.jW.n1,h.core.jW.e,h.core.jW.r,h.core.jW.p⟩,hT,hs,fun q ex hx=>(h.core.gF q ex hx).same (Int.le_refl _) rfl,h.core.cE,h.core.cR⟩,h.tab,h.few⟩
theorem Inv.unlink (h:Inv D Ts k) (p:List UInt8):Inv { D with T:=fF D.T p } Ts (k+1):=h.Nk (h.core.lv.unlink p) (h.core.sm.unlink p)
theorem Inv.add (h:Inv D Ts k) (hn:D.nx<4999) (hj:j<Ts.length) (hl:¬ai Ts[j]<0) (hok:DD (jL D e) e):Inv (jL D e) (Ts.set j (addN D Ts[j])) k:=by
 have g:=h.core.jW
 obtain ⟨n1,n2,n3⟩:=g.new
 rcases mg (N:=Ts[j]) with hx9|⟨i,hi,aG,hi0⟩
 ·omega
 have hN:addN D Ts[j]=Ts[j].set i (D.nx+1,false):=by unfold addN;rw [hi,show (i:Int).toNat=i by omega]
 have h0:=g.n0
 have hz:jw (D.nx+1) Ts=0:=by
  have:=h.core.cE (D.nx+1) (by omega)
  rw [n1] at this
  simp at this
  exact this
 rw [hN]
 have hcnt:∀x,0<x→jw x (Ts.set j (Ts[j].set i (D.nx+1,false)))=if x=D.nx+1 then 1 else jw x Ts:=fun x hx=>by
  have ht:=qL hj aG x (D.nx+1,false)
  simp only at ht
  rw [hi0,if_neg (show ¬(0:Int)=x by omega)] at ht
  by_cases e1:x=D.nx+1
  ·rw [if_pos e1]
   rw [if_pos e1.symm,e1,hz] at ht
   rw [e1];omega
  ·rw [if_neg e1]
   rw [if_neg (fun z=>e1 z.symm)] at ht
   omega
 refine ⟨⟨g.add hn e,h.core.lv,h.core.sm,fun x ex hx=>?_,fun x hx=>?_,fun x hx=>?_⟩,uG h.tab (uJ (h.tab _ (List.getElem_mem hj)) _ ⟨by simp;omega,fun z=>by simp at z;omega⟩),by rw [List.length_set];exact h.few⟩
 ·have hx':(if x=D.nx+1 then some e else D.E x)=some ex:=hx
  by_cases e1:x=D.nx+1
  ·rw [if_pos e1] at hx'
   obtain rfl:=Option.some.inj hx'
   exact hok
  ·rw [if_neg e1] at hx'
   exact (h.core.gF x ex hx').same (by show D.nx≤D.nx+1;omega) rfl
 ·show (if x=D.nx+1 then some e else D.E x).isSome=true↔_
  rw [hcnt x hx]
  by_cases e1:x=D.nx+1
  ·rw [if_pos e1,if_pos e1];simp
  ·rw [if_neg e1,if_neg e1];exact h.core.cE x hx
 ·show (if x=D.nx+1 then some 1 else D.R x)=_
  rw [hcnt x hx]
  by_cases e1:x=D.nx+1
  ·simp [e1]
  ·rw [if_neg e1,if_neg e1,h.core.cR x hx]
theorem oF {Ts:List Ns}{j:Nat}(_:j<Ts.length) (N':Ns) (h:j<(Ts.set j N').length):(Ts.set j N')[j]=N':=List.getElem_set_self h
theorem Gh (Ts:List Ns) (j:Nat) (a b:Ns):(Ts.set j a).set j b=Ts.set j b:=List.set_set _
theorem Inv.lu (h:Inv D Ts k) (hj:j<Ts.length):Inv D (Ts.set j Ts[j]) k:=by rw [List.set_getElem_self];exact h
theorem Inv.file {n s:Nat}{p:List UInt8}{pr:Int}{mk:Bool}{x c:Int}{D':DS}{N':Ns}(h:Inv D Ts k) (hk:k≤890) (hn:D.nx<4999) (hj:j<Ts.length) (hs:dF D.T s) (hF:iN D Ts[j] n s p pr mk x c D' N'):Inv D' (Ts.set j N') (k+2):=by
 have hlv:=h.core.lv
 have hadd:∀T' nd,bu T'→Sm (k+2) T'→1≤pr∧pr≤3→0≤nd→nd<1000→roomy Ts[j] n→Inv (jL { D with T:=T' } ⟨1,pr,nd,0,0⟩) (Ts.set j (addN D Ts[j])) (k+2):=fun T' nd hT' hS' hp h0 h1 hr=>
  (h.Nk (T':=T') hT' hS').add (D:={ D with T:=T' }) (e:=⟨1,pr,nd,0,0⟩) hn hj hr.1 ⟨.inl rfl,fun _=>⟨hp.1,hp.2,h0,h1,by simp,by simp⟩,fun z=>by simp at z,fun z=>by simp at z,fun z=>absurd rfl z⟩
 cases hF with
 |opened hp hr hE hh=>
  have hkey:=hlv.key _ (mH hlv.toTrOk hE)
  exact hadd _ _ (hlv.hold _ (.inl rfl) (fun b x hx=>by have:=(h.core.sm.2 _ b x hx).1;omega)) ((h.core.sm.hold _ 1 (by omega)).more (by omega)) hp hkey.1 (by omega) hr
 |made hp hr hE hm hM z hz=>
  have afv:z<64:=by
   have hmh:=rF hlv.toTrOk hM hz
   have acF:=(mF hlv.toTrOk hM).2.2.2
   have h9:=hs.free (k:=z.toNat) (fun i hi=>hz.least i (by omega) (by have:=hz.pos;omega))
   have:=hz.pos
   omega
  have hlv1:=hlv.make hM hz afv false
  have hmh:=rF hlv.toTrOk hM hz
  exact hadd _ _ (hlv1.hold _ (.inl rfl) (fun b x hx=>by have:=hmh.2 b x hx;omega)) ((h.core.sm.make p false z).hold _ 1 (by omega)) hp hz.pos (by omega) hr
 |_=>exact (h.lu hj).more (by omega)
end
section
variable {w w' w2:World}{f b n:Nat}{D D':DS}{g g':QG}{M N N':Ns}{d k:Int}{e:En}
theorem QF.yw (h:QF w f D g n) (t:dM w b g M N) {i:Nat}(hi:i<8) (hk:g.K k=some d) (hd:0<d) (he:D.E d=some e) {c:Int}(hc:D.R d=some c) (hc0:0≤c) (hc1:c<100000) :
 Calls Tryz.prog 224 #[wp f,wp b,.int .i64 (i:Int),.int .i64 k] w fun x w'=>x=.returned (.tuple #[])∧QF w' f (jr D d) g n∧dM w' b g (M.set i (k,false)) (N.set i (d,false))∧dG w w' f (jr D d) g b (N.set i (d,false)):=by
 rw [ML hc]
 refine (h.Eu t hi hk hd he hc hc0 hc1).mono ?_
 rintro x w' ⟨rfl,a1,a2,wt⟩
 exact ⟨rfl,a1,a2,⟨g,n,_,a1,a2,Ext.refl _ _ _⟩,wt⟩
theorem UJ (hx:jH N k=0):lM D N k=jr D (N.getD k.toNat (0,false)).1:=if_pos hx
theorem QF.abd (h:QF w f D g n) (t:dM w b g M N) (x:Int) (hC:yN D N) :
 Calls Tryz.prog 152 #[wp f,wp b,.int .i64 x] w fun y w'=>y=.returned (.tuple #[.int .i64 (jv N x),aI (jH N x)])∧dG w w' f (lM D N x) g b (lL N x):=by
 have hs:∀w',Below w.heap.size w w'→dG w w' f D g b N:=fun w' hb=>h.same t hb
 have hLs:∀V,Below w.heap.size w V→Calls Tryz.prog 223 #[wp b] V fun y w'=>y=.returned (.tuple #[.int .i64 (ai N),.bool (decide (0≤ai N))])∧Below w.heap.size w w':=fun V hV=>by
  refine ((t.below hV).mf (h.below hV)).mono ?_
  rintro y w' ⟨rfl,b1⟩
  exact ⟨rfl,hV.trans (b1.mono hV.size)⟩
 by_cases hx:aJ N x=true
 ·obtain ⟨i,rfl,hi,aG,h0⟩:=dX hx t.len
  have hF:=h.ay t hi aG h0
  obtain ⟨e,c,he,hc,hc0,hc1⟩:=hC i aG h0
  have hM:i<M.length:=by have:=t.tab.len;omega
  have hk:=t.keyOf hM aG h0
  rcases mg (N:=N) with hl|⟨j,hl,Lh,hj0⟩
  ·have e1:jH N i=12:=by unfold jH;rw [if_pos hx,hl];rfl
   have e2:lM D N i=D:=by unfold lM;rw [if_neg (by rw [e1];decide)]
   have e3:lL N i=N:=by unfold lL;rw [if_neg (by rw [e1];decide)]
   have e4:jv N i=0:=by unfold jv;rw [if_neg (by rw [e1];decide)]
   rw [e1,e2,e3,e4]
   rw [hl] at hLs
   generalize g.B N[i].1=q at *
   go_enter Tryz.func152,Tryz.ntmps152
   go_wp2_with (first
    |(go_at_call 219;refine hF.mono ?_;rintro y w1 ⟨rfl,b1⟩)
    |(go_at_call 223;refine (hLs _ b1).mono ?_;rintro y w2 ⟨rfl,b2⟩))
   go_ret2
   exact ⟨rfl,hs _ b2⟩
  ·have hj8:j<8:=by have:=t.len;omega
   have e1:jH N i=0:=by unfold jH;rw [if_pos hx,hl,if_neg (by omega)]
   have e2:lM D N i=jr D N[i].1:=by rw [UJ e1,getD_in aG]
   have e3:lL N i=N.set j (N[i].1,false):=by unfold lL;rw [if_pos e1,getD_in aG,hl,show (j:Int).toNat=j by omega]
   have e4:jv N i=j:=by unfold jv;rw [if_pos e1,hl]
   rw [e1,e2,e3,e4]
   rw [hl,show decide ((0:Int)≤(j:Int))=true by simp] at hLs
   have hcell:∀V,Below w.heap.size w V→V.cell? ⟨b,i*2,none⟩=some (.int .i64 M[i].1)∧Calls Tryz.prog 224 #[wp f,wp b,.int .i64 (j:Int),.int .i64 M[i].1] V fun x w'=>x=.returned (.tuple #[])∧dG w w' f (jr D N[i].1) g b (N.set j (N[i].1,false)):=fun V hV=>by
    refine ⟨((t.below hV).tab.at hi).1,((h.below hV).yw (t.below hV) hj8 hk h0 he hc hc0 hc1).mono ?_⟩
    rintro x w' ⟨rfl,_,_,hG⟩
    exact ⟨rfl,hG.upon hV⟩
   generalize jr D N[i].1=D2 at *
   generalize N.set j (N[i].1,false)=N2 at *
   generalize g.B N[i].1=q at *
   generalize M[i].1=X at *
   have hi8:(i:Int)<8:=by omega
   go_enter Tryz.func152,Tryz.ntmps152
   go_upto_region 7 with (first
    |(go_at_call 219;refine hF.mono ?_;rintro y w1 ⟨rfl,b1⟩)
    |(go_at_call 223;refine (hLs _ b1).mono ?_;rintro y w2 ⟨rfl,b2⟩))
   obtain ⟨c0,ZB⟩:=hcell _ b2
   go_wp2_with (go_at_call 224;refine ZB.mono ?_;rintro y w3 ⟨rfl,hG⟩)
   go_ret2
   exact ⟨rfl,hG⟩
 ·have hx':aJ N x=false:=by simpa using hx
  have e1:jH N x=7:=if_neg hx
  have e2:lM D N x=D:=by unfold lM;rw [if_neg (by rw [e1];decide)]
  have e3:lL N x=N:=by unfold lL;rw [if_neg (by rw [e1];decide)]
  have e4:jv N x=0:=by unfold jv;rw [if_neg (by rw [e1];decide)]
  rw [e1,e2,e3,e4]
  have hF:=h.j4 t x hx'
  go_enter Tryz.func152,Tryz.ntmps152
  go_wp2_with (go_at_call 219;refine hF.mono ?_;rintro y w1 ⟨rfl,b1⟩)
  go_ret2
  exact ⟨rfl,hs _ b1⟩
theorem QF.EB (h:QF w f D g n) (t:dM w b g M N) (x y:Int) (hx:aJ N x=false):Calls Tryz.prog 156 #[wp f,wp b,.int .i64 x,.int .i64 y] w fun z w'=>z=.returned (eQ 7)∧dG w w' f D g b N:=by
 have hF:=h.j4 t x hx
 have hs:∀w',Below w.heap.size w w'→dG w w' f D g b N:=fun w' hb=>h.same t hb
 go_enter Tryz.func156,Tryz.ntmps156
 go_wp2_with (go_at_call 219;refine hF.mono ?_;rintro y w1 ⟨rfl,b1⟩)
 go_ret
 exact ⟨rfl,hs _ b1⟩
theorem QF.KT (h:QF w f D g n) (t:dM w b g M N) (x y:Int) (hx:aJ N x=true) (hy:¬(0≤y∧y≤7)):Calls Tryz.prog 156 #[wp f,wp b,.int .i64 x,.int .i64 y] w fun z w'=>z=.returned (eQ 2)∧dG w w' f D g b N:=by
 obtain ⟨i,rfl,hi,aG,h0⟩:=dX hx t.len
 have hF:=h.ay t hi aG h0
 have hs:∀w',Below w.heap.size w w'→dG w w' f D g b N:=fun w' hb=>h.same t hb
 generalize g.B N[i].1=q at *
 by_cases hy0:y<0
 ·clear hy
  go_enter Tryz.func156,Tryz.ntmps156
  go_wp2_with (go_at_call 219;refine hF.mono ?_;rintro y w1 ⟨rfl,b1⟩)
  go_ret
  exact ⟨rfl,hs _ b1⟩
 ·have hy8:8≤y:=by omega
  go_enter Tryz.func156,Tryz.ntmps156
  go_wp2_with (go_at_call 219;refine hF.mono ?_;rintro y w1 ⟨rfl,b1⟩)
  go_ret
  exact ⟨rfl,hs _ b1⟩
theorem QF.P9 (h:QF w f D g n) (t:dM w b g M N) (x:Int) (hx:aJ N x=true):Calls Tryz.prog 156 #[wp f,wp b,.int .i64 x,.int .i64 x] w fun z w'=>z=.returned .nilIface∧dG w w' f D g b N:=by
 obtain ⟨i,rfl,hi,aG,h0⟩:=dX hx t.len
 have hF:=h.ay t hi aG h0
 have hs:∀w',Below w.heap.size w w'→dG w w' f D g b N:=fun w' hb=>h.same t hb
 generalize g.B N[i].1=q at *
 have hi8:(i:Int)<8:=by omega
 go_enter Tryz.func156,Tryz.ntmps156
 go_wp2_with (go_at_call 219;refine hF.mono ?_;rintro y w1 ⟨rfl,b1⟩)
 go_ret
 exact ⟨rfl,hs _ b1⟩
theorem QF.X8 (h:QF w f D g n) (t:dM w b g M N) {i j:Nat}(hi:i<8) (hj:j<8) (aG:i<N.length) (Lh:j<N.length) (hne:i≠j) (h0:0<N[i].1) (hC:yN D N) {D2:DS}
 (hD2:(N[j].1=0∧D2=jr D N[i].1)∨(0<N[j].1∧D2=aT (jr D N[i].1) N[j].1∧(∃e c,Cl (jr D N[i].1) N[j].1 e c))) (hl:Live D2 (N.set j (N[i].1,false))) :
 Calls Tryz.prog 156 #[wp f,wp b,.int .i64 (i:Int),.int .i64 (j:Int)] w fun z w'=>z=.returned .nilIface∧dG w w' f D2 g b (N.set j (N[i].1,false)):=by
 have hF:=h.ay t hi aG h0
 obtain ⟨e,c,he,hc,hc0,hc1⟩:=hC i aG h0
 have hM:i<M.length:=by have:=t.tab.len;omega
 have hMj:j<M.length:=by have:=t.tab.len;omega
 have hk:=t.keyOf hM aG h0
 have hcell:∀V,Below w.heap.size w V→V.cell? ⟨b,i*2,none⟩=some (.int .i64 M[i].1)∧V.cell? ⟨b,j*2,none⟩=some (.int .i64 M[j].1)∧Calls Tryz.prog 224 #[wp f,wp b,.int .i64 (j:Int),.int .i64 M[i].1] V fun x w'=>x=.returned (.tuple #[])∧Calls Tryz.prog 225 #[wp f,.int .i64 M[j].1] w' fun y w2=>y=.returned (.tuple #[])∧dG w w2 f D2 g b (N.set j (N[i].1,false)):=fun V hV=>by
  refine ⟨((t.below hV).tab.at hi).1,((t.below hV).tab.at hj).1,((h.below hV).yw (t.below hV) hj hk h0 he hc hc0 hc1).mono ?_⟩
  rintro x w' ⟨rfl,a1,a2,hG⟩
  refine ⟨rfl,?_⟩
  rcases hD2 with ⟨z0,rfl⟩|⟨z0,rfl,e2,c2,hcl⟩
  ·have hz:=(t.pos h j hMj Lh).2.2 z0
   rw [hz]
   refine a1.Ko.mono ?_
   rintro y w2 ⟨rfl,rfl⟩
   exact ⟨rfl,hG.upon hV⟩
  ·refine (a1.GH (t.keyOf hMj Lh z0) hcl).mono ?_
   rintro y w2 ⟨rfl,⟨g',n',b1,b2⟩,Fp⟩
   have hsz:=hG.wt.size
   have hsV:=hV.size
   refine ⟨rfl,⟨⟨g',n',_,b1,a2.other b2 (Fp.block b a2.tab.lt (by rw [t.off];simp)) hl,⟨fun x hx=>b2.dC x (by omega),b2.key,b2.r⟩⟩,(Wt.below _ hV).trans (hG.wt.trans (Fp.mono (fun x hx=>.inl hx)))⟩⟩
 generalize N.set j (N[i].1,false)=N2 at *
 generalize g.B N[i].1=q at *
 generalize M[i].1=X at *
 generalize M[j].1=Y at *
 have hi8:(i:Int)<8:=by omega
 have hj8:(j:Int)<8:=by omega
 have hij:((i:Int) == (j:Int))=false:=by simp;omega
 go_enter Tryz.func156,Tryz.ntmps156
 go_upto_region 8 with (go_at_call 219;refine hF.mono ?_;rintro y w1 ⟨rfl,b1⟩)
 obtain ⟨c0,c1,ZB⟩:=hcell _ b1
 go_wp2_with (first
  |(go_at_call 224;refine ZB.mono ?_;rintro y w3 ⟨rfl,hLv⟩)
  |(go_at_call 225;refine hLv.mono ?_;rintro y w4 ⟨rfl,hG⟩))
 go_ret
 exact ⟨rfl,hG⟩
end
def jg (D:DS) (N:Ns):DS:=N.foldl (fun D x=>if 0<x.1 then jr D x.1 else D) D
noncomputable def ah (all:Bool) (D:DS) (N:Ns):Nat→DS×Ns
 |0=>(D,N)
 |i+1=>if 0<(N.getD i (0,false)).1∧(all=true∨(N.getD i (0,false)).2=true) then (aT (ah all D N i).1 (N.getD i (0,false)).1,(ah all D N i).2.set i (0,false)) else ah all D N i
section
variable {D:DS}{Ts:List Ns}{k j i:Nat}{d:Int}{e:En}
theorem Inv.ZL (h:Inv D Ts k) (hj:j<Ts.length) (x a:Int):Inv (kr D Ts[j] x a) Ts k:=by
 unfold kr
 split
 ·rename_i hz
  unfold kg at hz
  split at hz
  ·cases he:D.E (Ts[j].getD x.toNat (0,false)).1 with
   |none=>exact h
   |some e=>
    rw [he] at hz
    simp only at hz ⊢
    have hok:=h.core.gF _ e he
    by_cases hk:e.kind=1
    ·rw [if_neg (fun z=>z hk)] at hz
     by_cases ha:0≤a∧a≤200
     ·refine h.QV he ⟨hok.kind,fun hk=>?_,hok.aR,hok.into,hok.pipe⟩
      have:=hok.file hk
      exact ⟨this.1,this.2.1,this.2.2.1,this.2.2.2.1,ha.1,ha.2⟩
     ·rw [if_neg ha] at hz;omega
    ·rw [if_pos hk] at hz;omega
  ·omega
 ·exact h
theorem Co {T:Wd}{x a c:Int}(hs:Sm k T) (h0:0≤a) (h1:a≤200):a+(eU T x a c).length≤200:=by
 unfold eU
 split
 ·rename_i b y e
  have:=(hs.2 x b y e).2
  split
  ·simp;omega
  ·rw [List.length_take,List.length_drop];omega
 ·simp;omega
theorem Inv.read (h:Inv D Ts k) (hj:j<Ts.length) (x a:Int):Inv (bR D Ts[j] x a).2.2 Ts k:=by
 unfold bR
 split
 ·split
  ·exact h
  ·rename_i e he
   have hok:=h.core.gF _ e he
   split
   ·exact h
   ·split
    ·rename_i hk
     refine h.QV he ⟨hok.kind,fun hk=>?_,hok.aR,hok.into,hok.pipe⟩
     obtain ⟨a1,a2,a3,a4,a5,a6⟩:=hok.file hk
     have:=Co (x:=e.node) (c:=a) h.core.sm a5 a6
     exact ⟨a1,a2,a3,a4,by simp only;omega,this⟩
    ·rename_i hk
     obtain ⟨a1,a2,p,a3,a4,a5,a6,a7,a8⟩:=hok.pipe hk
     rw [a3]
     exact h.dE a3 ⟨by simp;omega,a5,a6,a7,a8⟩
 ·exact h
theorem JO {T:Wd}{x a:Int}{s:List UInt8}(h:cZ T x a s=0):a+s.length≤200:=by
 unfold cZ at h
 split at h
 ·omega
 ·split at h
  ·omega
  ·split at h
   ·omega
   ·omega
theorem Inv.write (h:Inv D Ts k) (hj:j<Ts.length) (x:Int) (s:List UInt8) (a:Int):Inv (bZ D Ts[j] x s a).2.2 Ts (k+1):=by
 have h1:=h.more (Nat.le_succ k)
 unfold bZ
 split
 ·split
  ·exact h1
  ·rename_i e he
   have hok:=h.core.gF _ e he
   split
   ·exact h1
   ·split
    ·rename_i hk
     split
     ·exact h1
     ·split
      ·exact h1
      ·rename_i hE
       have hE':cZ D.T e.node e.pos s=0:=by omega
       have h2:=h.Nk (h.core.lv.write e.node e.pos s) (h.core.sm.write e.node e.pos s)
       refine h2.QV (D:={ D with T:=gp D.T e.node e.pos s }) he ⟨hok.kind,fun hk=>?_,hok.aR,hok.into,hok.pipe⟩
       obtain ⟨a1,a2,a3,a4,a5,a6⟩:=hok.file hk
       have:=JO hE'
       exact ⟨a1,a2,a3,a4,by simp only;omega,this⟩
    ·rename_i hk
     obtain ⟨a1,a2,p,a3,a4,a5,a6,a7,a8⟩:=hok.pipe hk
     rw [a3]
     exact h1.dE a3 ⟨VQ _ _ _ a4,a5,a6,a7,a8⟩
 ·exact h1
theorem Inv.afU (h:Inv D Ts k) (hj:j<Ts.length) (x:Int):Inv (lM D Ts[j] x) (Ts.set j (lL Ts[j] x)) k:=by
 by_cases hz:jH Ts[j] x=0
 ·have hx:aJ Ts[j] x=true:=by
   unfold jH at hz
   by_cases e1:aJ Ts[j] x=true
   ·exact e1
   ·rw [if_neg e1] at hz;omega
  obtain ⟨i,rfl,hi,aG,h0⟩:=dX hx (h.len hj)
  unfold jH at hz
  rw [if_pos hx] at hz
  rcases mg (N:=Ts[j]) with hl|⟨y,hl,hyL,hy0⟩
  ·rw [hl] at hz;simp at hz
  have e0:jH Ts[j] i=0:=by unfold jH;rw [if_pos hx];exact hz
  have e1:lM D Ts[j] i=jr D Ts[j][i].1:=by unfold lM;rw [if_pos e0,getD_in aG];rfl
  have e2:lL Ts[j] i=Ts[j].set y (Ts[j][i].1,false):=by unfold lL;rw [if_pos e0,getD_in aG,hl,show (y:Int).toNat=y by omega]
  rw [e1,e2]
  exact h.dup hj hyL hy0 h0 (fP hj aG) false
 ·rw [show lM D Ts[j] x=D from if_neg hz,show lL Ts[j] x=Ts[j] from if_neg hz]
  exact h.lu hj
theorem Inv.pipe (h:Inv D Ts k) (hn:D.nx<4990) (hj:j<Ts.length) (hl1:¬ai Ts[j]<0) (hl2:¬ai (dK D Ts[j])<0):Inv (xg D) (Ts.set j (BH D Ts[j])) k:=by
 have g:=h.core.jW
 obtain ⟨n1,n2,n3⟩:=g.new
 have g0:=g.n0
 have hz:jw (D.nx+1) Ts=0:=by
  have:=h.core.cE (D.nx+1) (by omega)
  rw [n1] at this
  simp at this
  exact this
 have h0:Inv (lV D) Ts k:=by
  refine ⟨⟨g.ade (by omega),h.core.lv,h.core.sm,fun x ex hx=>(h.core.gF x ex hx).keep (by show D.nx≤D.nx+1;omega) (fun p y a b c d e f=>?_),h.core.cE,h.core.cR⟩,h.tab,h.few⟩
  have:p≠D.nx+1:=fun e=>by rw [e,n3] at a;cases a
  exact ⟨y,(if_neg this).trans a,b,c,d,e,f⟩
 have hP0:(lV D).P (D.nx+1)=some ([],1,1):=if_pos rfl
 have h1:Inv (qA D) (Ts.set j (dK D Ts[j])) k:=h0.add (D:=lV D) (e:=⟨2,1,0,D.nx+1,0⟩) (by show D.nx+1<4999;omega) hj hl1 ⟨.inr (.inl rfl),fun z=>by simp at z,fun _=>rfl,fun z=>by simp at z,fun _=>⟨by simp only;omega,by show D.nx+1≤D.nx+1+1;omega,_,hP0,by simp,by simp,by simp,by simp,by simp⟩⟩
 have hj1:j<(Ts.set j (dK D Ts[j])).length:=by rw [List.length_set];exact hj
 have hg1:=oF hj (dK D Ts[j]) hj1
 have h2:=h1.add (D:=qA D) (j:=j) (e:=⟨3,2,0,D.nx+1,0⟩) (by show D.nx+1+1<4999;omega) hj1 (by rw [hg1];exact hl2) ⟨.inr (.inr rfl),fun z=>by simp at z,fun z=>by simp at z,fun _=>rfl,fun _=>⟨by simp only;omega,by show D.nx+1≤D.nx+1+1+1;omega,_,hP0,by simp,by simp,by simp,by simp,by simp⟩⟩
 rw [hg1,Gh] at h2
 exact h2
theorem mW.fork:∀(l:Ns) {D:DS}{C:Int→Nat},mW D C k→(∀x∈l,0<x.1→0<C x.1)→mW (jg D l) (fun d=>C d+sF d l) k
 | [],D,C,h,_=>h.congr (fun d _=>by simp [sF])
 |x :: l,D,C,h,hl=>by
  unfold jg
  rw [List.foldl_cons]
  by_cases hx:0<x.1
  ·rw [if_pos hx]
   refine (mW.fork l (h.inc hx (hl x List.mem_cons_self hx)) (fun y hy h0=>?_)).congr (fun d hd=>?_)
   ·show 0<(if y.1=x.1 then C x.1+1 else C y.1)
    split
    ·omega
    ·exact hl y (List.mem_cons_of_mem _ hy) h0
   ·simp only [sF,List.filter_cons]
    by_cases e1:d=x.1
    ·simp [e1];omega
    ·simp [e1,Ne.symm e1]
  ·rw [if_neg hx]
   refine (mW.fork l h (fun y hy h0=>hl y (List.mem_cons_of_mem _ hy) h0)).congr (fun d hd=>?_)
   simp only [sF,List.filter_cons]
   rw [if_neg (by simp;omega)]
theorem Inv.fork (h:Inv D Ts k) (hf:Ts.length<500) (hj:j<Ts.length):Inv (jg D Ts[j]) (Ts ++ [Ts[j]]) k:=by
 refine ⟨(mW.fork Ts[j] h.core (fun x hx h0=>?_)).congr (fun d hd=>?_),fun N hN=>?_,by rw [List.length_append];simp;omega⟩
 ·obtain ⟨i,hi,rfl⟩:=List.getElem_of_mem hx
  exact fP hj hi
 ·simp [jw]
 ·rcases List.mem_append.1 hN with h1|h1
  ·exact h.tab N h1
  ·rw [List.mem_singleton.1 h1];exact h.tab _ (List.getElem_mem hj)
theorem iF (all:Bool) (D:DS) (N:Ns):∀i,(ah all D N i).2.length=N.length∧∀x,i≤x→(ah all D N i).2[x]? = N[x]?
 |0=>⟨rfl,fun _ _=>rfl⟩
 |i+1=>by
  obtain ⟨h1,h2⟩:=iF all D N i
  rw [ah]
  split
  ·refine ⟨by simp only [List.length_set];exact h1,fun x hx=>?_⟩
   simp only
   rw [List.getElem?_set_ne (by omega)]
   exact h2 x (by omega)
  ·exact ⟨h1,fun x hx=>h2 x (by omega)⟩
theorem zL {all:Bool}{N:Ns}{i:Nat}(hi:i<N.length) (h:i<(ah all D N i).2.length):(ah all D N i).2[i]=N[i]:=by
 have:=(iF all D N i).2 i (Nat.le_refl _)
 rw [List.getElem?_eq_getElem h,List.getElem?_eq_getElem hi] at this
 exact Option.some.inj this
theorem Inv.free (h:Inv D Ts k) (hk:k≤900) (hj:j<Ts.length) (all:Bool):∀i,i≤8→Inv (ah all D Ts[j] i).1 (Ts.set j (ah all D Ts[j] i).2) k
 |0,_=>h.lu hj
 |i+1,hi=>by
  have ih:=Inv.free h hk hj all i (by omega)
  rw [ah]
  split
  ·rename_i hc
   have hiN:i<Ts[j].length:=by rw [h.len hj];omega
   have QA:i<(ah all D Ts[j] i).2.length:=by rw [(iF all D Ts[j] i).1];exact hiN
   have hj1:j<(Ts.set j (ah all D Ts[j] i).2).length:=by rw [List.length_set];exact hj
   have hg1:=oF hj (ah all D Ts[j] i).2 hj1
   have hgi:(Ts.set j (ah all D Ts[j] i).2)[j][i]'(by rw [hg1];exact QA)=Ts[j][i]:=by
    simp only [hg1]
    exact zL hiN QA
   have hD:Ts[j].getD i (0,false)=Ts[j][i]:=by rw [List.getD_eq_getElem?_getD,List.getElem?_eq_getElem hiN];rfl
   rw [hD] at hc ⊢
   have h2:=ih.close hk hj1 (i:=i) (by rw [hg1];exact QA) (by rw [hgi];exact hc.1)
   rw [hgi,hg1,Gh] at h2
   exact h2
  ·exact ih
end
section
variable {w w' w2 w0:World}{f b n q:Nat}{D D':DS}{g g':QG}{M N N':Ns}{d k:Int}{e:En}
theorem QF.afu (h:QF w f D g n) {i:Nat}(hi:∀j:Nat,1≤j→j≤i→(g.K j).isSome=true):i≤n:=by
 obtain ⟨Dt,_,_,h1,h2,h3⟩:=h.map.data
 have h4:=lD (a:=(List.range i).map (fun j:Nat=>((j+1:Nat):Int))) (b:=Go.intKeys Dt) (List.pairwise_map.2 (List.nodup_range.imp (fun {a b} h e=>h (by omega)))) (fun x hx=>by
  obtain ⟨j,hj,rfl⟩:=List.mem_map.1 hx
  have:=List.mem_range.1 hj
  refine (h3 _).2 ?_
  rw [Option.isSome_map]
  exact hi (j+1) (by omega) (by omega))
 rw [h2] at h4
 simpa using h4
theorem TU (D:DS) (e:En):jr (Jc D e) (D.nx+1)=jL D e:=by
 unfold jr Jc jL
 congr 1
 funext j
 by_cases ej:j=D.nx+1
 ·simp [ej]
 ·simp [ej]
def Nt (w w':World) (f:Nat) (D':DS) (g:QG) (b:Nat) (N':Ns) (n':Nat):Prop:=(∃g' M',QF w' f D' g' n'∧dM w' b g' M' N'∧Ext w D' g g'∧g'.Q=g.Q)∧Wt (fun i=>(g.dC i).isSome=true∨i=b) w w'
theorem Nt.go {n':Nat}(h:Nt w w' f D' g b N' n'):dG w w' f D' g b N':=by
 obtain ⟨⟨g',M',a,c,x,_⟩,wt⟩:=h
 exact ⟨⟨g',n',M',a,c,x⟩,wt⟩
structure AdS (w0 w w2:World) (f b q n:Nat) (g:QG) (D:DS) (N:Ns) (k:Int) (e:En):Prop where
 run:(Instr.mapUpdate 105 (.map (some g.gO)) (.int .i64 k) (wp q)).run Tryz.prog w=.ok () w2
 least:Calls Tryz.prog 223 #[wp b] w2 fun y w'=>y=.returned (.tuple #[.int .i64 (ai N),.bool (decide (0≤ai N))])∧Calls Tryz.prog 224 #[wp f,wp b,.int .i64 (ai N),.int .i64 k] w' fun y w3=>y=.returned (.tuple #[])∧Nt w0 w3 f (jL D e) g b (addN D N) (n+1)
theorem QF.adding (h:QF w0 f D g n) (t:dM w0 b g M N) (hb:Below w0.heap.size w0 w) (hq:w0.heap.size≤q) (hw:w.heap[q]? = some (.cells (kN g e 0) 296)) (hE:D.E (D.nx+1)=none) (h0:0≤D.nx) (hl:¬ai N<0) (hL:Live D N) (hn:n<10000) (hk:g.K k=none) (hk0:0<k) (hk1:k<100000):∃w2,AdS w0 w w2 f b q n g D N k e:=by
 have hB:=h.below hb
 obtain ⟨w2,hrun,pm,g2⟩:=hB.map.put Tryz.underlying105 (by unfold maxLen;omega) k (gU (by omega) (by omega)) (wp q)
 rw [hk] at pm
 obtain ⟨g',a1,a2,a3,a4,a5,a6,a7⟩:=h.aaM hq hb hE hk hk0 hk1 hw pm g2
 have hx:Ext w0 (Jc D e) g g':=⟨a2,fun i x hi _=>by
  rw [a3]
  show (if i=k then some (D.nx+1) else g.K i)=some x
  rw [if_neg (fun e9=>by rw [e9,hk] at hi;cases hi)]
  exact hi,a4⟩
 have hLn:Live (Jc D e) N:=fun i hi hp=>by
  show (if N[i].1=D.nx+1 then some e else D.E N[i].1).isSome=true
  split
  ·rfl
  ·exact hL i hi hp
 have Fp:Wt (fun i=>(g.dC i).isSome=true∨i=b) w0 w2:=(Wt.below _ hb).trans (Wt.grown g2 (.inl (by rw [h.tm];rfl)))
 have hbk:w2.heap[b]? = w0.heap[b]? := by
  rw [g2.block b (t.below hb).tab.lt (fun x=>by have:=h.tm;rw [←Option.some.inj x,t.off] at this;cases this)]
  exact hb.block b t.tab.lt
 have t2:dM w2 b g' M N:=t.other hx hbk hLn
 refine ⟨w2,hrun,((t2.mf a1).mono ?_)⟩
 rintro y w3 ⟨rfl,b3⟩
 refine ⟨rfl,?_⟩
 rcases mg (N:=N) with hx9|⟨j,hj,Lh,hj0⟩
 ·omega
 have hj8:j<8:=by have:=t.len;omega
 rw [hj]
 refine ((a1.below b3).yw (t2.below b3) hj8 (k:=k) (d:=D.nx+1) (by rw [a3];exact if_pos rfl) (by omega) (show (Jc D e).E (D.nx+1)=some e from if_pos rfl) (show (Jc D e).R (D.nx+1)=some 0 from if_pos rfl) (by omega) (by omega)).mono ?_
 rintro y w4 ⟨rfl,c1,c2,hG⟩
 rw [TU] at c1
 have hN:addN D N=N.set j (D.nx+1,false):=by unfold addN;rw [hj,show (j:Int).toNat=j by omega]
 rw [hN]
 refine ⟨rfl,⟨⟨g',_,c1,c2,⟨a2,fun i x hi _=>by
  rw [a3]
  show (if i=k then some (D.nx+1) else g.K i)=some x
  rw [if_neg (fun e9=>by rw [e9,hk] at hi;cases hi)]
  exact hi,a4⟩,a7⟩,?_⟩⟩
 have hw4:=hG.wt
 refine ⟨hw4.os.trans (b3.os.trans Fp.os),hw4.tape.trans (b3.tape.trans Fp.tape),hw4.output.trans (b3.output.trans Fp.output),Nat.le_trans Fp.size (Nat.le_trans b3.size hw4.size),fun i hi hA=>?_⟩
 have hsz:=Fp.size
 have ajA:=b3.size
 rw [hw4.block i (by omega) (fun hx=>hA (by
  rcases hx with hx|hx
  ·rw [a2 i hi] at hx;exact .inl hx
  ·exact .inr hx)),b3.block i (by omega)]
 exact Fp.block i hi hA
theorem QF.zh (h:QF w0 f D g n) (t:dM w0 b g M N) (hb:Below w0.heap.size w0 w) (hq:w0.heap.size≤q) (hw:w.heap[q]? = some (.cells (kN g e 0) 296)) (hE:D.E (D.nx+1)=none) (h0:0≤D.nx) (hl:¬ai N<0) (hL:Live D N) (hn:n<10000) :
 Calls Tryz.prog 251 #[wp f,wp b,wp q] w fun x w'=>x=.returned (.int .i64 (ai N))∧Nt w0 w' f (jL D e) g b (addN D N) (n+1):=by
 have hB:=h.below hb
 have c1:=hB.cells.2
 have h8:=DU
 have h7:=Ez
 have HA:Aside (∀k:Int,g.K k=none→0<k→k<100000→∃w2,AdS w0 w w2 f b q n g D N k e):=fun k hk hk0 hk1=>h.adding t hb hq hw hE h0 hl hL hn hk hk0 hk1
 have HK:Aside (∀i:Nat,(∀j:Nat,1≤j→j≤i→(g.K j).isSome=true)→i≤n):=fun i hi=>h.afu hi
 have HL:Aside (∀k:Int,0≤k→k<100000→(Instr.lookup 105 (.map (some g.gO)) (.int .i64 k) false).run Tryz.prog w=.ok (gv g k) w):=fun k h0 h1=>hB.look h0 h1
 have h9:=sN f
 have hen:∀q (W:World),(binOp BinOp.neq 272 (wp q) (.pointer none)).run Tryz.prog W=.ok (.bool true) W:=fun q W=>by kernel_rfl
 have hel:∀(W:World),(binOp BinOp.neq 272 (.pointer none) (.pointer none)).run Tryz.prog W=.ok (.bool false) W:=fun W=>by kernel_rfl
 have HN:Aside (n<10000):=hn
 go_enter Tryz.func251,Tryz.ntmps251
 go_wp2_with fail
 go_loopg [7] n (fun mm s7 wr=>∃i:Nat,Aside (i+mm=n)∧s7=.int .i64 ((i:Int)+1)∧Aside (∀j:Nat,1≤j→j≤i→(g.K j).isSome=true)∧wr=w)
 case atStart=>exact ⟨0,(show 0+n=n by omega),rfl,fun j h1 h2=>by omega,rfl⟩
 case round=>
  obtain ⟨i,HI,rfl,hall,hwr⟩:=hrel
  subst hwr
  have hi9:(i:Int)<10000:=by have:=HI.out;have:=HN.out;omega
  have hlk:=HL.out ((i:Int)+1) (by omega) (by omega)
  cases hK:g.K ((i:Int)+1) with
  |some d=>
   rw [uO hK] at hlk
   have HX:Aside (∀j:Nat,1≤j→j≤i+1→(g.K j).isSome=true):=fun j h1 h2=>by
    by_cases e1:j=i+1
    ·subst e1;rw [show ((i+1:Nat):Int)=(i:Int)+1 by omega,hK];rfl
    ·exact hall.out j h1 (by omega)
   have HI2:Aside (i+1≤n):=HK.out (i+1) HX.out
   go_wp2_with fail
   go_roundg (n-(i+1))
   case measure=>have:=HI.out;have:=HI2.out;omega
   case rel=>exact ⟨i+1,(show i+1+(n-(i+1))=n by have:=HI2.out;omega),by rw [show ((i+1:Nat):Int)+1=(i:Int)+1+1 by omega],HX,rfl⟩
  |none=>
   rw [Et hK] at hlk
   obtain ⟨w2,A⟩:=HA.out ((i:Int)+1) hK (by omega) (by omega)
   have hrun:=A.run
   have hLs:=A.least
   go_wp2_with (first
    |(go_at_call 223;refine hLs.mono ?_;rintro y w3 ⟨rfl,ZB⟩)
    |(go_at_call 224;refine ZB.mono ?_;rintro y w4 ⟨rfl,hG⟩))
   go_ret
   exact ⟨rfl,hG⟩
end
structure rZ (w w':World) (f:Nat) (D:DS) (T':Wd) (g:QG) (n b:Nat) (M N:Ns):Prop where
 ex:∃g',QF w' f { D with T:=T' } g' n∧dM w' b g' M N∧(∀i,i<w.heap.size→g'.dC i=g.dC i)∧g'.K=g.K∧g'.r=g.r∧g'.B=g.B
 wt:Wt (fun i=>(g.dC i).isSome=true∨i=b) w w'
section
variable {w w' w2 w0 w1:World}{f b n q:Nat}{D D':DS}{g g' g1:QG}{M N N':Ns}{d k m:Int}{e:En}{T':Wd}
theorem dM.Ra (t:dM w b g M N) (hk:w'.heap[b]? = w.heap[b]?) (hx:∀i,i<w.heap.size→g'.dC i=g.dC i) (hK:g'.K=g.K):dM w' b g' M N:=
 ⟨t.tab.keep hk,(hx b t.tab.lt).trans t.off,t.len,by rw [hK];exact t.rel⟩
theorem QF.DJ (h:QF w f D g n) (t:dM w b g M N) {O O':Nat→Prop}(hO:∀i,O i→g.dC i=some .tree) (p:PT w' g.r T' O') (st:Stp w w' O O'):rZ w w' f D T' g n b M N:=by
 obtain ⟨g',a1,a2,a3,a4,a5⟩:=h.turn hO p st
 have hb:w'.heap[b]? = w.heap[b]? := st.wt.block b t.tab.lt (fun o=>by have:=hO b o;rw [t.off] at this;cases this)
 exact ⟨⟨g',a1,t.Ra hb a2 a3,a2,a3,a4,a5⟩,st.wt.mono (fun i hi=>.inl (by rw [hO i hi];rfl))⟩
theorem QF.still (h:QF w f D g n) (t:dM w b g M N) (hb:Below w.heap.size w w'):rZ w w' f D D.T g n b M N:=⟨⟨g,h.below hb,t.below hb,fun _ _=>rfl,rfl,rfl,rfl⟩,Wt.below _ hb⟩
theorem rZ.upon (hb:Below w.heap.size w w1) (h:rZ w1 w' f D T' g n b M N):rZ w w' f D T' g n b M N:=by
 obtain ⟨⟨g',a1,a2,a3,a4⟩,wt⟩:=h
 exact ⟨⟨g',a1,a2,fun i hi=>a3 i (Nat.lt_of_lt_of_le hi hb.size),a4⟩,(Wt.below _ hb).trans wt⟩
theorem rZ.go (h:rZ w w' f D T' g n b M N):dG w w' f { D with T:=T' } g b N:=by
 obtain ⟨⟨g',a1,a2,a3,a4,a5,_⟩,wt⟩:=h
 exact ⟨⟨g',n,M,a1,a2,a3,fun k d hk _=>by rw [a4];exact hk,a5⟩,wt⟩
theorem Wt.weaken {A A':Nat→Prop}(h:Wt A w w') (k:Wt A' w' w2) (hA:∀i,i<w.heap.size→A' i→A i):Wt A w w2:=
 ⟨k.os.trans h.os,k.tape.trans h.tape,k.output.trans h.output,Nat.le_trans h.size k.size,fun i hi hn=>(k.block i (Nat.lt_of_lt_of_le hi h.size) (fun z=>hn (hA i hi z))).trans (h.block i hi hn)⟩
theorem dG.after (hx:∀i,i<w.heap.size→g1.dC i=g.dC i) (hK:g1.K=g.K) (hr:g1.r=g.r) (wt:Wt (fun i=>(g.dC i).isSome=true∨i=b) w w1) (h:dG w1 w2 f D' g1 b N'):dG w w2 f D' g b N':=by
 obtain ⟨⟨g',n',M',a1,a2,a3⟩,Fp⟩:=h
 refine ⟨⟨g',n',M',a1,a2,⟨fun i hi=>(a3.dC i (Nat.lt_of_lt_of_le hi wt.size)).trans (hx i hi),fun k d hk hd=>a3.key k d (by rw [hK];exact hk) hd,a3.r.trans hr⟩⟩,wt.weaken Fp (fun i hi z=>by
  rcases z with z|z
  ·exact .inl (by rw [←hx i hi];exact z)
  ·exact .inr z)⟩
theorem QF.Zl (h:QF w f D g n) (hT:bu D.T) (p:List UInt8) (hp:p.length<100000) (hm:w.cell? ⟨4,0,none⟩=some (.int .i64 m)):Calls Tryz.prog 233 #[wp g.r,tx p] w fun e w'=>e=.returned (.tuple #[.int .i64 (aF D.T p).1,aI (aF D.T p).2])∧Below w.heap.size w w':=by
 obtain ⟨O,pt,hO⟩:=h.tree
 obtain ⟨gN,s,B,G,V,pt⟩:=pt
 exact pt.find_ok hT.toTrOk (pt.num.pos hT.toTrOk) p hp m hm
theorem QF.ads (h:QF w f D g n) (t:dM w b g M N) (hT:bu D.T) (x:Int) (hx0:0≤x) (hx1:x<100000) (hx:∀b y,D.T x=some (.file b y)→y+1≤1000):Calls Tryz.prog 250 #[wp g.r,.int .i64 x] w fun e w'=>e=.returned (aI (dY D.T x 1))∧rZ w w' f D (dh D.T x 1) g n b M N:=by
 obtain ⟨O,pt,hO⟩:=h.tree
 refine (pt.XP hT x (gU hx0 (by omega)) hx).mono ?_
 rintro e w' ⟨rfl,p',st⟩
 exact ⟨rfl,h.DJ t hO p' st⟩
theorem QF.adm (h:QF w f D g n) (t:dM w b g M N) (hT:bu D.T) {s:Nat}(hs:dF D.T s) (p:List UInt8) (hp:p.length<100000) (hm:w.cell? ⟨4,0,none⟩=some (.int .i64 m)) (hC:∀k C,D.T k=some (.dir C)→C.length≤1000) :
 Calls Tryz.prog 308 #[wp g.r,tx p] w fun e w'=>(aY D.T s p≠0∧e=.returned (.tuple #[.int .i64 0,eQ (aY D.T s p)])∧rZ w w' f D D.T g n b M N)∨(aY D.T s p=0∧∃k,gq D.T k∧k<64∧e=.returned (.tuple #[.int .i64 k,.nilIface])∧rZ w w' f D (je D.T p false k) g n b M N):=by
 obtain ⟨O,pt,hO⟩:=h.tree
 refine (pt.Qg hT hs p hp m hm hC).mono ?_
 rintro e w' (⟨a,rfl,p',st⟩|⟨a,k,O',b1,c,rfl,p',st⟩)
 ·exact .inl ⟨a,rfl,h.DJ t hO p' st⟩
 ·exact .inr ⟨a,k,b1,c,rfl,h.DJ t hO p' st⟩
theorem YS (c:Int) (w:World) (hg:w.cell? ⟨0,0,none⟩=some iB):Calls Tryz.prog 14 #[aI c] w fun e w'=>e=.returned (.int .i64 c)∧Below w.heap.size w w':=by
 by_cases h:c=0
 ·subst h
  refine (F9 w).mono ?_
  rintro e w' ⟨rfl,rfl⟩
  exact ⟨rfl,Below.refl _ _⟩
 ·rw [ax h];exact zw c w hg
theorem cell_below {v:Value}{q:Nat}(hg:w.cell? ⟨q,0,none⟩=some v) (hb:Below w.heap.size w w'):w'.cell? ⟨q,0,none⟩=some v:=by
 rw [hb.cell (p:=⟨q,0,none⟩) (World.block_lt_of_cell? w _ hg)];exact hg
theorem QF.O0 (h:QF w f D g n) (hT:bu D.T) (p:List UInt8) (hp:p.length<100000) (hm:w.cell? ⟨4,0,none⟩=some (.int .i64 m)) (hg:w.cell? ⟨0,0,none⟩=some iB) (mk:Bool) (hmk:¬((aF D.T p).2=7∧mk=true)) :
 Calls Tryz.prog 249 #[wp f,tx p,.bool mk] w fun e w'=>e=.returned (.tuple #[.int .i64 (aF D.T p).1,aI (aF D.T p).2])∧Below w.heap.size w w':=by
 have hF:=h.Zl hT p hp hm
 have c0:=h.cells.1
 have hTl:∀V,Below w.heap.size w V→Calls Tryz.prog 14 #[aI (aF D.T p).2] V fun e w'=>e=.returned (.int .i64 (aF D.T p).2)∧Below w.heap.size w w':=fun V hV=>by
  refine (YS _ V (cell_below hg hV)).mono ?_
  rintro e w' ⟨rfl,b1⟩
  exact ⟨rfl,hV.trans (b1.mono hV.size)⟩
 generalize (aF D.T p).1=k at *
 generalize (aF D.T p).2=c at *
 cases mk with
 |false=>
  generalize aI c=U at *
  go_enter Tryz.func249,Tryz.ntmps249
  go_wp2_with (go_at_call 233;refine hF.mono ?_;rintro y w1 ⟨rfl,b1⟩)
  go_ret2
  exact ⟨rfl,b1⟩
 |true=>
  have hc7:(c == 7)=false:=by simpa using hmk
  generalize aI c=U at *
  go_enter Tryz.func249,Tryz.ntmps249
  go_wp2_with (first
   |(go_at_call 233;refine hF.mono ?_;rintro y w1 ⟨rfl,b1⟩)
   |(go_at_call 14;refine (hTl _ b1).mono ?_;rintro y w2 ⟨rfl,b2⟩))
  go_ret2
  exact ⟨rfl,b2⟩
theorem QF.OZ (h:QF w f D g n) (t:dM w b g M N) (hT:bu D.T) {s:Nat}(hs:dF D.T s) (p:List UInt8) (hp:p.length<100000) (hm:w.cell? ⟨4,0,none⟩=some (.int .i64 m)) (hg:w.cell? ⟨0,0,none⟩=some iB) (hC:∀k C,D.T k=some (.dir C)→C.length≤1000) (hE:(aF D.T p).2=7) :
 Calls Tryz.prog 249 #[wp f,tx p,.bool true] w fun e w'=>(aY D.T s p≠0∧e=.returned (.tuple #[.int .i64 0,eQ (aY D.T s p)])∧rZ w w' f D D.T g n b M N)∨(aY D.T s p=0∧∃k,gq D.T k∧k<64∧e=.returned (.tuple #[.int .i64 k,.nilIface])∧rZ w w' f D (je D.T p false k) g n b M N):=by
 have hF:=h.Zl hT p hp hm
 rw [hE] at hF
 have c0:=h.cells.1
 have hTl:∀V,Below w.heap.size w V→Calls Tryz.prog 14 #[aI 7] V fun e w'=>e=.returned (.int .i64 7)∧Below w.heap.size w w':=fun V hV=>by
  refine (YS _ V (cell_below hg hV)).mono ?_
  rintro e w' ⟨rfl,b1⟩
  exact ⟨rfl,hV.trans (b1.mono hV.size)⟩
 have hMk:∀V,Below w.heap.size w V→V.cell? ⟨f,0,none⟩=some (wp g.r)∧Calls Tryz.prog 308 #[wp g.r,tx p] V fun e w'=>∃k c,e=.returned (.tuple #[.int .i64 k,aI c])∧((aY D.T s p≠0∧k=0∧c=aY D.T s p∧rZ w w' f D D.T g n b M N)∨(aY D.T s p=0∧gq D.T k∧k<64∧c=0∧rZ w w' f D (je D.T p false k) g n b M N)):=fun V hV=>by
  refine ⟨(h.below hV).cells.1,((h.below hV).adm (t.below hV) hT hs p hp (cell_below hm hV) hC).mono ?_⟩
  rintro e w' (⟨a,rfl,st⟩|⟨a,k,b1,c,rfl,st⟩)
  ·exact ⟨0,aY D.T s p,by rw [ax a],.inl ⟨a,rfl,rfl,st.upon hV⟩⟩
  ·exact ⟨k,0,rfl,.inr ⟨a,b1,c,rfl,st.upon hV⟩⟩
 have HQ:Aside (∀(w':World) (k c:Int),((aY D.T s p≠0∧k=0∧c=aY D.T s p∧rZ w w' f D D.T g n b M N)∨(aY D.T s p=0∧gq D.T k∧k<64∧c=0∧rZ w w' f D (je D.T p false k) g n b M N))→((aY D.T s p≠0∧Ending.returned (.tuple #[.int .i64 k,aI c])=.returned (.tuple #[.int .i64 0,eQ (aY D.T s p)])∧rZ w w' f D D.T g n b M N)∨(aY D.T s p=0∧∃j,gq D.T j∧j<64∧Ending.returned (.tuple #[.int .i64 k,aI c])=.returned (.tuple #[.int .i64 j,.nilIface])∧rZ w w' f D (je D.T p false j) g n b M N))):=fun w' k c hx=>by
  rcases hx with ⟨a,rfl,rfl,st⟩|⟨a,b1,b2,rfl,st⟩
  ·exact .inl ⟨a,by rw [ax a],st⟩
  ·exact .inr ⟨a,k,b1,b2,rfl,st⟩
 have HM:Aside (∀V,Below w.heap.size w V→V.cell? ⟨f,0,none⟩=some (wp g.r)∧Calls Tryz.prog 308 #[wp g.r,tx p] V fun e w'=>∃k c,e=.returned (.tuple #[.int .i64 k,aI c])∧((aY D.T s p≠0∧k=0∧c=aY D.T s p∧rZ w w' f D D.T g n b M N)∨(aY D.T s p=0∧gq D.T k∧k<64∧c=0∧rZ w w' f D (je D.T p false k) g n b M N))):=hMk
 generalize (aF D.T p).1=k0 at *
 go_enter Tryz.func249,Tryz.ntmps249
 go_upto_region 3 with (first
  |(go_at_call 233;refine hF.mono ?_;rintro y w1 ⟨rfl,b1⟩)
  |(go_at_call 14;refine (hTl _ b1).mono ?_;rintro y w2 ⟨rfl,b2⟩))
 obtain ⟨c2,hMk⟩:=HM.out _ b2
 go_wp2_with (go_at_call 308;refine hMk.mono ?_;rintro y w3 ⟨k,c,rfl,hR⟩;have HR:Aside _:=hR;clear hR)
 go_ret2
 exact HQ.out _ _ _ HR.out
end
section
variable {w w' w2 w0 w1:World}{f b n q k j:Nat}{D D' D1 D2:DS}{g g' g1:QG}{M M1 N N' N1 N2:Ns}{d m:Int}{e:En}{T':Wd}{Ts:List Ns}
theorem dG.comp (h:QF w f D g n) (wt:Wt (fun i=>(g.dC i).isSome=true∨i=b) w w1) (hx:Ext w D1 g g1) (h2:dG w1 w2 f D2 g1 b N2) (hs:∀d,(D.E d).isSome=true→(D2.E d).isSome=true→(D1.E d).isSome=true):dG w w2 f D2 g b N2:=by
 obtain ⟨⟨g2,n2,M2,a1,a2,a3⟩,Fp⟩:=h2
 refine ⟨⟨g2,n2,M2,a1,a2,⟨fun i hi=>(a3.dC i (Nat.lt_of_lt_of_le hi wt.size)).trans (hx.dC i hi),fun k d hk hd=>a3.key k d (hx.key k d hk (hs d (h.key k d hk).1 hd)) hd,a3.r.trans hx.r⟩⟩,wt.weaken Fp (fun i hi z=>?_)⟩
 rcases z with z|z
 ·exact .inl (by rw [←hx.dC i hi];exact z)
 ·exact .inr z
theorem dG.freed (h:QF w f D g n) (I:Inv D Ts k) (hk:k≤900) (hj:j<Ts.length) (hN:Ts[j]=N) {all:Bool}{i:Nat}(hi:i<8) (aG:i<N.length) (h0:0<N[i].1) (ha:all=true∨N[i].2=true) (hG:dG w w1 f (ah all D N i).1 g b (ah all D N i).2) :
 Calls Tryz.prog 220 #[wp f,wp b,.int .i64 (i:Int)] w1 fun x w'=>x=.returned (.tuple #[])∧dG w w' f (ah all D N (i+1)).1 g b (ah all D N (i+1)).2:=by
 have QA:i<(ah all D N i).2.length:=by rw [(iF all D N i).1];exact aG
 have hat:=zL (D:=D) (all:=all) aG QA
 have hD:N.getD i (0,false)=N[i]:=by rw [List.getD_eq_getElem?_getD,List.getElem?_eq_getElem aG];rfl
 have e1:ah all D N (i+1)=(aT (ah all D N i).1 N[i].1,(ah all D N i).2.set i (0,false)):=by
  rw [ah,hD,if_pos ⟨h0,ha⟩]
 have I1:=I.free hk hj all i (by omega)
 have I2:=I.free hk hj all (i+1) (by omega)
 rw [hN] at I1 I2
 rw [e1] at I2 ⊢
 have hj1:j<(Ts.set j (ah all D N i).2).length:=by rw [List.length_set];exact hj
 have hj2:j<(Ts.set j ((ah all D N i).2.set i (0,false))).length:=by rw [List.length_set];exact hj
 have hg1:=oF hj (ah all D N i).2 hj1
 have hg2:=oF hj ((ah all D N i).2.set i (0,false)) hj2
 have hl:=I2.live hj2
 rw [hg2] at hl
 have hcn:=I1.cl hj1 (i:=i) (by rw [hg1];exact QA)
 simp only [hg1] at hcn
 rw [hat] at hcn
 obtain ⟨e,cl⟩:=hcn h0
 obtain ⟨⟨g1,n1,M1,a1,a2,a3⟩,wt⟩:=hG
 have hf:=a1.nC a2 hi QA (by rw [hat];exact h0) (e:=e) (c:=jw N[i].1 (Ts.set j (ah all D N i).2)) (by rw [hat];exact cl) (by rw [hat];exact hl)
 rw [hat] at hf
 refine hf.mono ?_
 rintro x w' ⟨rfl,hG2⟩
 exact ⟨rfl,dG.comp h wt a3 hG2 (fun d _ hd=>K4 hd)⟩
theorem AP {all:Bool}{i:Nat}(aG:i<N.length) (hc:¬(0<N[i].1∧(all=true∨N[i].2=true))):ah all D N (i+1)=ah all D N i:=by
 have hD:N.getD i (0,false)=N[i]:=by rw [List.getD_eq_getElem?_getD,List.getElem?_eq_getElem aG];rfl
 rw [ah,hD,if_neg hc]
theorem dG.acS {all:Bool}{i:Nat}(hi:i<8) (aG:i<N.length) (hG:dG w w1 f (ah all D N i).1 g b (ah all D N i).2):∃x:Int×Bool,Calls Tryz.prog 215 #[wp b,.int .i64 (i:Int)] w1 (fun e w'=>e=.returned (.agg #[.int .i64 x.1,.bool x.2])∧dG w w' f (ah all D N i).1 g b (ah all D N i).2)∧(x.1=0↔N[i].1=0)∧0≤N[i].1∧x.2=N[i].2∧(x.1=0→x.2=false):=by
 have QA:i<(ah all D N i).2.length:=by rw [(iF all D N i).1];exact aG
 have hat:=zL (D:=D) (all:=all) aG QA
 have hG':=hG
 obtain ⟨⟨g1,n1,M1,a1,a2,a3⟩,wt⟩:=hG
 have hM:i<M1.length:=by rw [a2.tab.len];exact hi
 have h1:=a2.tab.xw i
 rw [zf a2.tab.len hi] at h1
 have hp:=(a2.pos a1 i hM QA).2
 have hr:=(a2.rel i hM QA).1
 rw [hat] at hp hr
 have hnn:=a2.afp i QA
 rw [hat] at hnn
 refine ⟨M1[i],h1.mono ?_,hp,hnn,hr.symm,(a2.tab.nn hM).2.2⟩
 rintro e w' ⟨rfl,b1⟩
 exact ⟨rfl,⟨⟨g1,n1,M1,a1.below b1,a2.below b1,a3⟩,wt.trans (Wt.below _ b1)⟩⟩
theorem dG.behind (h:dG w w1 f D' g b N') (hb:Below w1.heap.size w1 w2):dG w w2 f D' g b N':=by
 obtain ⟨⟨g1,n1,M1,a1,a2,a3⟩,wt⟩:=h
 exact ⟨⟨g1,n1,M1,a1.below hb,a2.below hb,a3⟩,wt.trans (Wt.below _ hb)⟩
theorem QF.zN (h:QF w f D g n) (t:dM w b g M N) (I:Inv D Ts k) (hk:k≤900) (hj:j<Ts.length) (hN:Ts[j]=N) :
 Calls Tryz.prog 283 #[wp f,wp b] w fun y w'=>y=.returned (.tuple #[])∧dG w w' f (ah true D N 8).1 g b (ah true D N 8).2:=by
 have hL:N.length=8:=t.len
 have hG0:dG w w f (ah true D N 0).1 g b (ah true D N 0).2:=h.same t (Below.refl _ _)
 have HA:Aside (∀i (hi:i<8) (aG:i<N.length) W,dG w W f (ah true D N i).1 g b (ah true D N i).2→∃x:Int×Bool,Calls Tryz.prog 215 #[wp b,.int .i64 (i:Int)] W (fun e w'=>e=.returned (.agg #[.int .i64 x.1,.bool x.2])∧dG w w' f (ah true D N i).1 g b (ah true D N i).2)∧(x.1=0↔N[i].1=0)∧0≤N[i].1∧x.2=N[i].2∧(x.1=0→x.2=false)):=fun i hi aG W hG=>dG.acS hi aG hG
 have HF:Aside (∀i (hi:i<8) (aG:i<N.length) W,0<N[i].1→(true=true∨N[i].2=true)→dG w W f (ah true D N i).1 g b (ah true D N i).2→Calls Tryz.prog 220 #[wp f,wp b,.int .i64 (i:Int)] W fun x w'=>x=.returned (.tuple #[])∧dG w w' f (ah true D N (i+1)).1 g b (ah true D N (i+1)).2):=fun i hi aG W h0 ha hG=>dG.freed h I hk hj hN hi aG h0 ha hG
 have HS:Aside (∀i (aG:i<N.length) W,¬(0<N[i].1∧(true=true∨N[i].2=true))→dG w W f (ah true D N i).1 g b (ah true D N i).2→dG w W f (ah true D N (i+1)).1 g b (ah true D N (i+1)).2):=fun i aG W h0 hG=>by
  rw [AP aG h0];exact hG
 have HL:Aside (N.length=8):=hL
 have hfm:=zC
 go_enter Tryz.func283,Tryz.ntmps283
 go_wp2_with fail
 go_loopg [4,5] 8 (fun mm _ s5 wx=>∃i:Nat,Aside (i+mm=8)∧s5=.int .i64 (i:Int)∧dG w wx f (ah true D N i).1 g b (ah true D N i).2)
 case atStart=>exact ⟨0,rfl,rfl,hG0⟩
 case round=>
  obtain ⟨i,HI,rfl,hG⟩:=hrel
  have hi9':(i:Int)≤8:=by have:=HI.out;omega
  by_cases hlt:(i:Int)<8
  ·have yC:Aside (i<N.length):=by show i<N.length;have:=HL.out;omega
   have VE:Aside (i<8):=by show i<8;omega
   obtain ⟨⟨X,Y⟩,hAt,hx0,hnn,hy,hfr⟩:=HA.out i VE.out yC.out _ hG
   simp only at hAt hx0 hy hfr
   by_cases hX:X=0
   ·have VG:Aside (¬(0<(N[i]'yC.out).1∧(true=true∨(N[i]'yC.out).2=true))):=fun z=>by have:=hx0.1 hX;omega
    subst hX
    go_wp2_with (first
     |(go_at_call 215;refine hAt.mono ?_;rintro e w1 ⟨rfl,hG1⟩)
     |(go_at_call 216;refine (lJ _ 0 _).mono ?_;rintro e w2 ⟨rfl,b2⟩))
    go_roundg (7-i)
    case measure=>have:=HI.out;omega
    case rel=>exact ⟨i+1,(show i+1+(7-i)=8 by omega),by rfl,HS.out i yC.out _ VG.out (hG1.behind b2)⟩
   ·have VG:Aside (0<(N[i]'yC.out).1∧(true=true∨(N[i]'yC.out).2=true)):=⟨by have:(N[i]'yC.out).1≠0:=fun z=>hX (hx0.2 z);omega,.inl rfl⟩
    have hX':(X == 0)=false:=by simpa using hX
    go_wp2_with (first
     |(go_at_call 215;refine hAt.mono ?_;rintro e w1 ⟨rfl,hG1⟩)
     |(go_at_call 216;refine (lJ _ X _).mono ?_;rintro e w2 ⟨rfl,b2⟩;have vQ:=HF.out i VE.out yC.out _ VG.out.1 VG.out.2 (hG1.behind b2))
     |(go_at_call 220;refine vQ.mono ?_;rintro e w3 ⟨rfl,hG3⟩))
    go_roundg (7-i)
    case measure=>have:=HI.out;omega
    case rel=>exact ⟨i+1,(show i+1+(7-i)=8 by omega),by rfl,hG3⟩
  ·have H8:Aside (i=8):=by show i=8;omega
   have hG8:dG w wr f (ah true D N 8).1 g b (ah true D N 8).2:=by rw [←H8.out];exact hG
   go_wp2_with fail
   go_end0
   exact ⟨rfl,hG8⟩
theorem QF.XZ (h:QF w f D g n) (t:dM w b g M N) (I:Inv D Ts k) (hk:k≤900) (hj:j<Ts.length) (hN:Ts[j]=N) :
 Calls Tryz.prog 159 #[wp f,wp b] w fun y w'=>y=.returned (.tuple #[])∧dG w w' f (ah false D N 8).1 g b (ah false D N 8).2:=by
 have hL:N.length=8:=t.len
 have hG0:dG w w f (ah false D N 0).1 g b (ah false D N 0).2:=h.same t (Below.refl _ _)
 have HA:Aside (∀i (hi:i<8) (aG:i<N.length) W,dG w W f (ah false D N i).1 g b (ah false D N i).2→∃x:Int×Bool,Calls Tryz.prog 215 #[wp b,.int .i64 (i:Int)] W (fun e w'=>e=.returned (.agg #[.int .i64 x.1,.bool x.2])∧dG w w' f (ah false D N i).1 g b (ah false D N i).2)∧(x.1=0↔N[i].1=0)∧0≤N[i].1∧x.2=N[i].2∧(x.1=0→x.2=false)):=fun i hi aG W hG=>dG.acS hi aG hG
 have HF:Aside (∀i (hi:i<8) (aG:i<N.length) W,0<N[i].1→(false=true∨N[i].2=true)→dG w W f (ah false D N i).1 g b (ah false D N i).2→Calls Tryz.prog 220 #[wp f,wp b,.int .i64 (i:Int)] W fun x w'=>x=.returned (.tuple #[])∧dG w w' f (ah false D N (i+1)).1 g b (ah false D N (i+1)).2):=fun i hi aG W h0 ha hG=>dG.freed h I hk hj hN hi aG h0 ha hG
 have HS:Aside (∀i (aG:i<N.length) W,¬(0<N[i].1∧(false=true∨N[i].2=true))→dG w W f (ah false D N i).1 g b (ah false D N i).2→dG w W f (ah false D N (i+1)).1 g b (ah false D N (i+1)).2):=fun i aG W h0 hG=>by
  rw [AP aG h0];exact hG
 have HL:Aside (N.length=8):=hL
 have hfm:=zC
 go_enter Tryz.func159,Tryz.ntmps159
 go_wp2_with fail
 go_loopg [4,5] 8 (fun mm _ s5 wx=>∃i:Nat,Aside (i+mm=8)∧s5=.int .i64 (i:Int)∧dG w wx f (ah false D N i).1 g b (ah false D N i).2)
 case atStart=>exact ⟨0,rfl,rfl,hG0⟩
 case round=>
  obtain ⟨i,HI,rfl,hG⟩:=hrel
  have hi9':(i:Int)≤8:=by have:=HI.out;omega
  by_cases hlt:(i:Int)<8
  ·have yC:Aside (i<N.length):=by show i<N.length;have:=HL.out;omega
   have VE:Aside (i<8):=by show i<8;omega
   obtain ⟨⟨X,Y⟩,hAt,hx0,hnn,hy,hfr⟩:=HA.out i VE.out yC.out _ hG
   simp only at hAt hx0 hy hfr
   by_cases hX:Y=false
   ·have VG:Aside (¬(0<(N[i]'yC.out).1∧(false=true∨(N[i]'yC.out).2=true))):=fun z=>by rcases z.2 with z2|z2;exact absurd z2 (by simp);rw [←hy,hX] at z2;cases z2
    subst hX
    clear hG hx0 hnn hy hfr
    go_wp2_with (go_at_call 215;refine hAt.mono ?_;rintro e w1 ⟨rfl,hG1⟩)
    go_roundg (7-i)
    case measure=>have:=HI.out;omega
    case rel=>exact ⟨i+1,(show i+1+(7-i)=8 by omega),by rfl,HS.out i yC.out _ VG.out hG1⟩
   ·have VG:Aside (0<(N[i]'yC.out).1∧(false=true∨(N[i]'yC.out).2=true)):=⟨by have:X≠0:=fun z=>hX (hfr z);have:(N[i]'yC.out).1≠0:=fun z=>this (hx0.2 z);omega,.inr (by rw [←hy];simpa using hX)⟩
    have hX2:Y=true:=by simpa using hX
    have hfl:=zC X Y
    rw [hX2] at hAt
    go_wp2_with (first
     |(go_at_call 215;refine hAt.mono ?_;rintro e w1 ⟨rfl,hG1⟩;have vQ:=HF.out i VE.out yC.out _ VG.out.1 VG.out.2 hG1)
     |(go_at_call 220;refine vQ.mono ?_;rintro e w3 ⟨rfl,hG3⟩))
    go_roundg (7-i)
    case measure=>have:=HI.out;omega
    case rel=>exact ⟨i+1,(show i+1+(7-i)=8 by omega),by rfl,hG3⟩
  ·have H8:Aside (i=8):=by show i=8;omega
   have hG8:dG w wr f (ah false D N 8).1 g b (ah false D N 8).2:=by rw [←H8.out];exact hG
   go_wp2_with fail
   go_end0
   exact ⟨rfl,hG8⟩
end
theorem CW {D:DS}{N:Ns}{i:Nat}(hi:i<N.length):jg D (N.take (i+1))=if 0<N[i].1 then jr (jg D (N.take i)) N[i].1 else jg D (N.take i):=by
 unfold jg
 rw [List.take_succ_eq_append_getElem hi,List.foldl_append]
 rfl
def upTo (N:Ns) (i:Nat):Ns:=N.take i ++ List.replicate (8-i) (0,false)
theorem SB {N:Ns}(h:N.length=8) {i:Nat}(hi:i≤8):(upTo N i).length=8:=by
 unfold upTo;rw [List.length_append,List.length_take,List.length_replicate];omega
theorem F5 {N:Ns}(h:N.length=8):upTo N 8=N:=by
 unfold upTo;rw [List.take_of_length_le (by omega)];simp
theorem zo {N:Ns}(h:N.length=8) {i:Nat}(hi:i<8):(upTo N i).set i (N[i]'(by omega))=upTo N (i+1):=by
 unfold upTo
 rw [List.set_append,List.length_take,if_neg (by omega),show 8-i=(8-(i+1))+1 by omega,List.replicate_succ,List.take_succ_eq_append_getElem (by omega),show i-min i N.length=0 by omega,List.append_assoc]
 rfl
theorem Cb {N:Ns}(h:N.length=8) {i:Nat}(hi:i<8) (h0:N[i]'(by omega)=(0,false)):upTo N (i+1)=upTo N i:=by
 rw [←zo h hi,h0]
 unfold upTo
 rw [List.set_append,List.length_take,if_neg (by omega),show 8-i=(8-(i+1))+1 by omega,List.replicate_succ,show i-min i N.length=0 by omega]
 rfl
section
variable {w w' w2 w0 w1:World}{f b n q k j:Nat}{D D' D1 D2:DS}{g g' g1:QG}{M M1 N N' N1 N2:Ns}{d m:Int}{e:En}{T':Wd}{Ts:List Ns}
structure BF (w W:World) (f b n:Nat) (D:DS) (g:QG) (M N:Ns) (i:Nat):Prop where
 q:QF W f (jg D (N.take i)) g n
 t:dM W b g M N
 u:dM W w.heap.size g (upTo M i) (upTo N i)
 wt:Wt (fun i=>(g.dC i).isSome=true) w W
 lt:b<w.heap.size
theorem BF.below {W:World}{i:Nat}(h:BF w W f b n D g M N i) (hb:Below W.heap.size W w'):BF w w' f b n D g M N i:=⟨h.q.below hb,h.t.below hb,h.u.below hb,h.wt.trans (Wt.below _ hb),h.lt⟩
theorem MJ (h:QF w f D g n):g.dC w.heap.size=none:=by
 cases e:g.dC w.heap.size with
 |none=>rfl
 |some t=>have:=h.lt _ (by rw [e];rfl);omega
theorem BF.give {W:World}{i:Nat}(h:BF w W f b n D g M N i) (I:Inv D Ts k) (hj:j<Ts.length) (hN:Ts[j]=N) (hi:i<8) (hiM:i<M.length) (aG:i<N.length) (h0:0<N[i].1) :
 Calls Tryz.prog 224 #[wp f,wp w.heap.size,.int .i64 (i:Int),.int .i64 M[i].1] W fun x w'=>x=.returned (.tuple #[])∧w'.cell? ⟨b,i*2+1,none⟩=some (.bool M[i].2)∧(∃v,w'.cell? ⟨w.heap.size,i*2+1,none⟩=some v)∧w'.frozen? ⟨w.heap.size,i*2+1,none⟩=false∧∀V,V.heap=(w'.setCell ⟨w.heap.size,i*2+1,none⟩ (.bool M[i].2)).heap→V.os=w'.os→V.tape=w'.tape→V.output=w'.output→BF w V f b n D g M N (i+1):=by
 have hk:=h.t.keyOf hiM aG h0
 have hMl:=h.t.tab.len
 have hNl:=h.t.len
 have hIc:=mW.fork (N.take i) I.core (fun x hx hx0=>by
  rw [←hN] at hx
  obtain ⟨y,hy,rfl⟩:=List.getElem_of_mem (List.mem_of_mem_take hx)
  exact fP hj hy)
 have hcp:0<jw N[i].1 Ts:=by
  have:=fP (Ts:=Ts) (j:=j) (i:=i) hj (by rw [hN];exact aG)
  simp only [hN] at this
  exact this
 have h64:=I.LC N[i].1
 have hcl:=MZ N[i].1 (N.take i)
 rw [List.length_take] at hcl
 obtain ⟨e,cl⟩:=hIc.cl h0 (by omega) (by omega)
 have hR:=cl.cnt
 refine (h.q.yw h.u hi hk h0 cl.gF hR (by omega) cl.c1).mono ?_
 rintro x w' ⟨rfl,a1,a2,hG⟩
 have hk0:=(h.q.key _ _ hk).2.1
 have hub:(upTo M i).length=8:=SB hMl (by omega)
 have hwt:=hG.wt
 have hbw:b≠w.heap.size:=fun e9=>by have:=h.lt;omega
 have hbk:w'.heap[b]? = W.heap[b]? := hwt.block b h.t.tab.lt (by
  rintro (z|z)
  ·rw [h.t.off] at z;cases z
  ·exact hbw z)
 have t1:dM w' b g M N:=h.t.keep hbk
 refine ⟨rfl,(t1.tab.at hi).2,⟨_,(a2.tab.at hi).2⟩,a2.tab.free _,fun V hV ho ht hou=>?_⟩
 have hm0:((upTo M i).set i (M[i].1,false))[i]'(by rw [List.length_set,hub];exact hi)=(M[i].1,false):=List.getElem_set_self _
 have tm:=a2.tab.mark hi M[i].2 (by rw [hm0];simp only;omega)
 rw [hm0] at tm
 simp only [List.set_set] at tm
 have hMi:(upTo M i).set i (M[i].1,M[i].2)=upTo M (i+1):=zo hMl hi
 have hNi:(upTo N i).set i (N[i].1,N[i].2)=upTo N (i+1):=zo hNl hi
 have tu:=a2.set (i:=i) (M[i].1,M[i].2) (N[i].1,N[i].2) (by rw [List.set_set];exact tm) ⟨(h.t.rel i hiM aG).1,.inr ⟨h0,hk⟩⟩
 rw [List.set_set,List.set_set,hMi,hNi] at tu
 have gg:=aV w' w.heap.size (i*2+1) (.bool M[i].2)
 have q1:=a1.DR h.u.off gg
 have hsz:V.heap.size=(w'.setCell ⟨w.heap.size,i*2+1,none⟩ (.bool M[i].2)).heap.size:=by rw [hV]
 have hD:jg D (N.take (i+1))=jr (jg D (N.take i)) N[i].1:=by rw [CW aG,if_pos h0]
 refine ⟨by rw [hD];exact q1.keep (fun x _=>by rw [hV]) (by omega),t1.keep (by rw [hV];exact gg.block b (t1.tab.lt) (fun z=>hbw (Option.some.inj z))),tu.keep (by rw [hV]),?_,h.lt⟩
 refine ⟨ho.trans (hwt.os.trans h.wt.os),ht.trans (hwt.tape.trans h.wt.tape),hou.trans (hwt.output.trans h.wt.output),?_,fun x hx hA=>?_⟩
 ·have:=gg.size;have:=hwt.size;have:=h.wt.size;omega
 ·have:=h.wt.size
  have:=hwt.size
  rw [hV,gg.block x (by omega) (fun z=>by have:=Option.some.inj z;omega),hwt.block x (by omega) (by
   rintro (z|z)
   ·exact hA z
   ·omega)]
  exact h.wt.block x hx hA
theorem BF.skip {W:World}{i:Nat}(h:BF w W f b n D g M N i) (hi:i<8) (hiM:i<M.length) (aG:i<N.length) (h0:¬0<N[i].1):BF w W f b n D g M N (i+1):=by
 have hr:=h.t.rel i hiM aG
 have hM0:M[i].1=0∧N[i].1=0:=by
  rcases hr.2 with z|z
  ·exact z
  ·exact absurd z.1 h0
 have hm:=(h.t.tab.nn hiM).2.2 hM0.1
 have hMi:M[i]=(0,false):=Prod.ext hM0.1 hm
 have hNi:N[i]=(0,false):=Prod.ext hM0.2 (hr.1.trans hm)
 refine ⟨by rw [CW aG,if_neg h0];exact h.q,h.t,?_,h.wt,h.lt⟩
 rw [Cb h.t.tab.len hi hMi,Cb h.t.len hi hNi]
 exact h.u
theorem BF.first (h:QF w f D g n) (t:dM w b g M N):BF w (w.alloc (.cells (nv (List.replicate 8 (0,false))).toArray 116)) f b n D g M N 0:=by
 have bA:Below w.heap.size w (w.alloc (.cells (nv (List.replicate 8 (0,false))).toArray 116)):=(Below.refl _ w).alloc (Nat.le_refl _) _
 have hn:(w.alloc (.cells (nv (List.replicate 8 (0,false))).toArray 116)).heap[w.heap.size]? = some (.cells (nv (List.replicate 8 (0,false))).toArray 116):=by
  show (w.heap.push _)[w.heap.size]? = _
  rw [Array.getElem?_push,if_pos rfl]
 refine ⟨h.below bA,t.below bA,⟨⟨hn,rfl,fun x hx=>?_⟩,MJ h,rfl,fun i h1 h2=>?_⟩,Wt.below _ bA,t.tab.lt⟩
 ·have:=List.eq_of_mem_replicate (show x∈List.replicate 8 ((0:Int),false) from hx)
  rw [this];simp
 ·have e1:(upTo M 0)[i]=(0,false):=List.eq_of_mem_replicate (show (upTo M 0)[i]∈List.replicate 8 ((0:Int),false) from List.getElem_mem h1)
  have e2:(upTo N 0)[i]=(0,false):=List.eq_of_mem_replicate (show (upTo N 0)[i]∈List.replicate 8 ((0:Int),false) from List.getElem_mem h2)
  exact ⟨(congrArg Prod.snd e2).trans (congrArg Prod.snd e1).symm,.inl ⟨congrArg Prod.fst e1,congrArg Prod.fst e2⟩⟩
theorem QF.uP (h:QF w f D g n) (t:dM w b g M N) (I:Inv D Ts k) (hj:j<Ts.length) (hN:Ts[j]=N) :
 Calls Tryz.prog 230 #[wp f,wp b] w fun y w'=>y=.returned (wp w.heap.size)∧QF w' f (jg D N) g n∧dM w' b g M N∧dM w' w.heap.size g M N∧Wt (fun i=>(g.dC i).isSome=true) w w':=by
 have hF0:=BF.first h t
 have HL:Aside (N.length=8∧M.length=8):=⟨t.len,t.tab.len⟩
 have HG:Aside (∀(W:World) (i:Nat),BF w W f b n D g M N i→i<8→∀(hiM:i<M.length) (aG:i<N.length),0<N[i].1→Calls Tryz.prog 224 #[wp f,wp w.heap.size,.int .i64 (i:Int),.int .i64 M[i].1] W fun x w'=>x=.returned (.tuple #[])∧w'.cell? ⟨b,i*2+1,none⟩=some (.bool M[i].2)∧(∃v,w'.cell? ⟨w.heap.size,i*2+1,none⟩=some v)∧w'.frozen? ⟨w.heap.size,i*2+1,none⟩=false∧∀V,V.heap=(w'.setCell ⟨w.heap.size,i*2+1,none⟩ (.bool M[i].2)).heap→V.os=w'.os→V.tape=w'.tape→V.output=w'.output→BF w V f b n D g M N (i+1)):=fun W i hF hi hiM aG h0=>hF.give I hj hN hi hiM aG h0
 have HFd:Aside (∀(W:World) (i:Nat),BF w W f b n D g M N i→i<8→∀(hiM:i<M.length) (aG:i<N.length),0<N[i].1→Calls Tryz.prog 219 #[wp f,wp b,.int .i64 (i:Int)] W fun x w'=>∃q,x=.returned (.tuple #[wp q,.nilIface])∧BF w w' f b n D g M N i∧w'.cell? ⟨b,i*2,none⟩=some (.int .i64 M[i].1)):=fun W i hF hi hiM aG h0=>by
  refine (hF.q.ay hF.t hi aG h0).mono ?_
  rintro x w' ⟨rfl,b1⟩
  have hF1:=hF.below b1
  exact ⟨_,rfl,hF1,(hF1.t.tab.at hi).1⟩
 have HFn:Aside (∀(W:World) (i:Nat),BF w W f b n D g M N i→i<8→∀(aG:i<N.length),N[i].1≤0→Calls Tryz.prog 219 #[wp f,wp b,.int .i64 (i:Int)] W fun x w'=>x=.returned (.tuple #[.pointer none,eQ 7])∧BF w w' f b n D g M N (i+1)):=fun W i hF hi aG h0=>by
  refine (hF.q.j4 hF.t i (by unfold aJ;rw [getD_in aG];simp;omega)).mono ?_
  rintro x w' ⟨rfl,b1⟩
  exact ⟨rfl,(hF.below b1).skip hi (by have:=hF.t.tab.len;omega) aG (by omega)⟩
 go_enter Tryz.func230,Tryz.ntmps230
 go_wp2_with fail
 go_loopg [6,7,8,11] 8 (fun mm _ _ _ s11 wx=>∃i:Nat,Aside (i+mm=8)∧s11=.int .i64 (i:Int)∧BF w wx f b n D g M N i)
 case atStart=>exact ⟨0,rfl,rfl,hF0⟩
 case round=>
  obtain ⟨i,HI,rfl,hF⟩:=hrel
  have hi9':(i:Int)≤8:=by have:=HI.out;omega
  by_cases hlt:(i:Int)<8
  ·have yC:Aside (i<N.length):=by show i<N.length;have:=HL.out;omega
   have HiM:Aside (i<M.length):=by show i<M.length;have:=HL.out;omega
   have VE:Aside (i<8):=by show i<8;omega
   by_cases h0:0<(N[i]'yC.out).1
   ·have QH:=HFd.out _ i hF VE.out HiM.out yC.out h0
    have H0:Aside (0<(N[i]'yC.out).1):=h0
    have HGv:Aside (∀W,BF w W f b n D g M N i→_):=fun W hW=>HG.out W i hW VE.out HiM.out yC.out H0.out
    generalize (M[i]'HiM.out).1=X at *
    generalize (M[i]'HiM.out).2=Y at *
    go_upto_region 7 with (go_at_call 219;refine QH.mono ?_;rintro x w2 ⟨q,rfl,hF2,c2⟩)
    have ZB:=HGv.out _ hF2
    go_upto_region 8 with (go_at_call 224;refine ZB.mono ?_;rintro x w3 ⟨rfl,c3,⟨v,c4⟩,z4,hN⟩)
    have HN:Aside _:=hN
    go_region
    all_goals
     go_wp2_with fail
     go_roundg (7-i)
     case measure=>have:=HI.out;omega
     case rel=>exact ⟨i+1,(show i+1+(7-i)=8 by omega),by rfl,HN.out _ rfl rfl rfl rfl⟩
   ·have QH:=HFn.out _ i hF VE.out yC.out (by omega)
    go_wp2_with (go_at_call 219;refine QH.mono ?_;rintro x w2 ⟨rfl,hF2⟩)
    go_roundg (7-i)
    case measure=>have:=HI.out;omega
    case rel=>exact ⟨i+1,(show i+1+(7-i)=8 by omega),by rfl,hF2⟩
  ·have h8:i=8:=by omega
   subst h8
   have hq:=hF.q
   have hu:=hF.u
   have ht:=hF.t
   have hw:=hF.wt
   rw [List.take_of_length_le (by have:=HL.out;omega)] at hq
   rw [F5 HL.out.1,F5 HL.out.2] at hu
   go_wp2_with fail
   go_ret
   exact ⟨rfl,hq,ht,hu,hw⟩
end
section
variable {w w' w2 w0 w1:World}{r:Nat}{T:Wd}{O:Nat→Prop}
theorem aae (b:Nat) (w:World):(binOp BinOp.eql 54 (wp b) (.pointer none)).run Tryz.prog w=.ok (.bool false) w:=by kernel_rfl
theorem QF.made (h:PT w r T O):∃g,QF ((w.alloc (.map #[] 0)).alloc (.cells #[wp r,.map (some w.heap.size)] 107)) (w.heap.size+1) (qh T) g 0∧(∀i,i<w.heap.size→((g.dC i).isSome=true↔O i))∧g.r=r:=by
 classical
 have b1:Below w.heap.size w (w.alloc (.map #[] 0)):=(Below.refl _ w).alloc (Nat.le_refl _) _
 have hs1:(w.alloc (.map #[] 0)).heap.size=w.heap.size+1:=by simp
 have b2:Below w.heap.size w ((w.alloc (.map #[] 0)).alloc (.cells #[wp r,.map (some w.heap.size)] 107)):=b1.alloc (by omega) _
 have hs2:((w.alloc (.map #[] 0)).alloc (.cells #[wp r,.map (some w.heap.size)] 107)).heap.size=w.heap.size+1+1:=by
  show ((w.alloc (.map #[] 0)).heap.push _).size=_
  rw [Array.size_push,hs1]
 have hO:∀i,O i→i<w.heap.size:=fun i hi=>h.lt i hi
 have hk:∀i,O i→(if i=w.heap.size+1 then some Tag.head else if i=w.heap.size then some Tag.mp else if O i then some Tag.tree else none)=some Tag.tree:=fun i hi=>by
  have:=hO i hi
  rw [if_neg (by omega),if_neg (by omega),if_pos hi]
 refine ⟨⟨r,w.heap.size,fun _=>none,fun _=>0,fun _=>0,fun i=>if i=w.heap.size+1 then some .head else if i=w.heap.size then some .mp else if O i then some .tree else none⟩,⟨?_,⟨O,h.below b2,hk⟩,?_,fun d e he=>(by cases he),fun k d he=>(by cases he),fun d he=>(by cases he),fun k k' d he=>(by cases he),fun p x he=>(by cases he),if_pos rfl,?_,fun i hi=>?_⟩,fun i hi=>?_,rfl⟩
 ·show ((w.alloc (.map #[] 0)).heap.push _)[w.heap.size+1]? = _
  rw [Array.getElem?_push,if_pos hs1.symm]
 ·exact (aK.made w).keep (Below.heap_alloc _ _ _ (by rw [hs1];omega))
 ·show (if w.heap.size=w.heap.size+1 then some Tag.head else if w.heap.size=w.heap.size then some Tag.mp else _)=some Tag.mp
  rw [if_neg (by omega),if_pos rfl]
 ·have hi':(if i=w.heap.size+1 then some Tag.head else if i=w.heap.size then some Tag.mp else if O i then some Tag.tree else none).isSome=true:=hi
  rw [hs2]
  by_cases e1:i=w.heap.size+1
  ·omega
  ·by_cases e2:i=w.heap.size
   ·omega
   ·rw [if_neg e1,if_neg e2] at hi'
    by_cases e3:O i
    ·have:=hO i e3;omega
    ·rw [if_neg e3] at hi';cases hi'
 ·show ((if i=w.heap.size+1 then some Tag.head else if i=w.heap.size then some Tag.mp else if O i then some Tag.tree else none).isSome=true↔O i)
  rw [if_neg (by omega),if_neg (by omega)]
  by_cases e3:O i
  ·simp [e3]
  ·simp [e3]
theorem af2.ok (h:PT w r T O):Calls Tryz.prog 18 #[wp r] w fun y w'=>∃f g,y=.returned (.tuple #[wp f,.nilIface])∧QF w' f (qh T) g 0∧(∀i,i<w.heap.size→((g.dC i).isSome=true↔O i))∧g.r=r∧Below w.heap.size w w':=by
 have h9:=aae r
 have hmm:=@run_makeMap Tryz.prog
 have hM:=QF.made h
 have b1:Below w.heap.size w (w.alloc (.map #[] 0)):=(Below.refl _ w).alloc (Nat.le_refl _) _
 have hs1:(w.alloc (.map #[] 0)).heap.size=w.heap.size+1:=by simp
 have b2:Below w.heap.size w ((w.alloc (.map #[] 0)).alloc (.cells #[wp r,.map (some w.heap.size)] 107)):=b1.alloc (by omega) _
 have HM:Aside (∃g,QF ((w.alloc (.map #[] 0)).alloc (.cells #[wp r,.map (some w.heap.size)] 107)) (w.heap.size+1) (qh T) g 0∧(∀i,i<w.heap.size→((g.dC i).isSome=true↔O i))∧g.r=r):=hM
 go_enter Tryz.func18,Tryz.ntmps18
 go_wp2_with fail
 go_ret2
 obtain ⟨g,a1,a2,a3⟩:=HM.out
 exact ⟨w.heap.size+1,g,rfl,a1,a2,a3,b2⟩
end
theorem Uv {T:Wd}{x:Int}(h:dY T x 1≠0):dh T x 1=T:=by
 unfold dY at h;unfold dh
 cases hn:T x with
 |none=>rfl
 |some nd=>cases nd with
  |dir C=>rfl
  |file b y=>
   rw [hn] at h
   simp only at h ⊢
   by_cases h9:(y:Int)+1<0
   ·omega
   ·rw [if_neg h9] at h;exact absurd rfl h
noncomputable def iU (D:DS) (N:Ns) (x:Int):DS:=if aJ N x=true then aT D (N.getD x.toNat (0,false)).1 else D
def gX (N:Ns) (x:Int):Ns:=if aJ N x=true then N.set x.toNat (0,false) else N
def fD (N:Ns) (x y:Int):Int:=if aJ N x=true then (if 0≤y∧y≤7 then 0 else 2) else 7
noncomputable def fV (D:DS) (N:Ns) (x y:Int):DS:=if fD N x y=0∧x≠y then (if (N.getD y.toNat (0,false)).1=0 then jr D (N.getD x.toNat (0,false)).1 else aT (jr D (N.getD x.toNat (0,false)).1) (N.getD y.toNat (0,false)).1) else D
def fC (N:Ns) (x y:Int):Ns:=if fD N x y=0∧x≠y then N.set y.toNat ((N.getD x.toNat (0,false)).1,false) else N
def vV (N:Ns) (n:Nat):Prop:=ak N+2 > 8∨n+2 > 40
def rX (D:DS) (N:Ns) (n:Nat) (x y c:Int) (D':DS) (N':Ns):Prop:=(vV N n∧x=0∧y=0∧c=12∧D'=D∧N'=N)∨(¬vV N n∧x=ai N∧y=ai (dK D N)∧c=0∧D'=xg D∧N'=BH D N)
section
variable {D:DS}{Ts:List Ns}{k j i:Nat}{d:Int}{e:En}
theorem F4:∀(N:Ns) (i:Nat) (y:Int×Bool),ak (N.set i y)≤ak N+1
 | [],_,_=>by simp [ak]
 |x :: N,0,y=>by
  simp only [List.set_cons_zero,ak,List.filter_cons]
  split<;>split<;>simp<;>omega
 |x :: N,i+1,y=>by
  have:=F4 N i y
  simp only [List.set_cons_succ,ak,List.filter_cons] at this ⊢
  split
  ·simp;omega
  ·exact this
theorem Inv.nn (h:Inv D Ts k) (hj:j<Ts.length):∀x∈Ts[j],0≤x.1:=fun x hx=>((h.tab _ (List.getElem_mem hj)).2 x hx).1
theorem Inv.Ct (h:Inv D Ts k) (hj:j<Ts.length) {n:Nat}(hf:¬vV Ts[j] n):¬ai Ts[j]<0∧¬ai (dK D Ts[j])<0:=by
 have h0:=h.core.jW.n0
 have hl:=h.len hj
 have hu:ak Ts[j]+2≤8:=by unfold vV at hf;omega
 have e1:¬ai Ts[j]<0:=fun z=>by
  have:=(jR (h.nn hj)).1 z;omega
 refine ⟨e1,fun z=>?_⟩
 have h2:∀x∈dK D Ts[j],0≤x.1:=fun x hx=>by
  unfold dK addN at hx
  rcases List.mem_or_eq_of_mem_set hx with h1|h1
  ·exact h.nn hj x h1
  ·rw [h1];show 0≤D.nx+1+1;omega
 have h3:=(jR h2).1 z
 have h4:ak (dK D Ts[j])≤ak Ts[j]+1:=F4 _ _ _
 have h5:(dK D Ts[j]).length=8:=by unfold dK addN;rw [List.length_set];exact hl
 omega
theorem Inv.abz (h:Inv D Ts k) (hk:k≤900) (hj:j<Ts.length) (x:Int):Inv (iU D Ts[j] x) (Ts.set j (gX Ts[j] x)) k:=by
 unfold iU gX
 by_cases hx:aJ Ts[j] x=true
 ·obtain ⟨i,rfl,hi,aG,h0⟩:=dX hx (h.len hj)
  rw [if_pos hx,if_pos hx,getD_in aG,show (i:Int).toNat=i by omega]
  exact h.close hk hj aG h0
 ·rw [if_neg hx,if_neg hx];exact h.lu hj
theorem Inv.adE (h:Inv D Ts k) (hk:k≤900) (hj:j<Ts.length) (x y:Int):Inv (fV D Ts[j] x y) (Ts.set j (fC Ts[j] x y)) k:=by
 unfold fV fC
 by_cases hz:fD Ts[j] x y=0∧x≠y
 ·rw [if_pos hz,if_pos hz]
  obtain ⟨hz,hne⟩:=hz
  unfold fD at hz
  by_cases hx:aJ Ts[j] x=true
  ·rw [if_pos hx] at hz
   by_cases hy:0≤y∧y≤7
   ·obtain ⟨i,rfl,hi,aG,h0⟩:=dX hx (h.len hj)
    obtain ⟨i2,rfl⟩:∃i2:Nat,y=i2:=⟨y.toNat,by omega⟩
    have Dy:i2<Ts[j].length:=by rw [h.len hj];omega
    rw [getD_in aG,getD_in Dy,show (i2:Int).toNat=i2 by omega]
    by_cases e0:Ts[j][i2].1=0
    ·rw [if_pos e0]
     exact h.dup hj Dy e0 h0 (fP hj aG) false
    ·rw [if_neg e0]
     have:=h.nn hj _ (List.getElem_mem Dy)
     exact (h.dup2 hk hj Dy (by omega) h0 (fP hj aG)).1
   ·rw [if_neg hy] at hz;omega
  ·rw [if_neg hx] at hz;omega
 ·rw [if_neg hz,if_neg hz];exact h.lu hj
end
section
variable {w w' w2 w0 w1:World}{f b n q:Nat}{D D':DS}{g g' g1:QG}{M N N':Ns}{d k m:Int}{e:En}{T':Wd}
theorem Mm (w:World) (a b c d e x:Value) (t:TypeId):(w.alloc (.cells #[a,b,c,d,e,x] t)).heap[w.heap.size]? = some (.cells #[a,b,c,d,e,x] t):=by
 show (w.heap.push _)[w.heap.size]? = _
 rw [Array.getElem?_push,if_pos rfl]
theorem dM.nn (t:dM w b g M N):∀x∈N,0≤x.1:=fun x hx=>by
 obtain ⟨i,hi,rfl⟩:=List.getElem_of_mem hx
 rcases (t.rel i (by rw [t.tab.len];have:=t.len;omega) hi).2 with ⟨_,c⟩|⟨c,_⟩
 ·omega
 ·omega
theorem dM.Kt (t:dM w b g M N):ai N<0↔8≤ak N:=by
 have hu:=jR t.nn
 rw [t.len] at hu
 exact hu
theorem QF.Rb (h:QF w f D g n) (t:dM w b g M N) (hn:n<10000) {z:Bool}(hz:(z=true∧roomy N n)∨(z=false∧¬roomy N n)):Calls Tryz.prog 248 #[wp f,wp b,.int .i64 1] w fun e w'=>e=.returned (.bool z)∧Below w.heap.size w w':=by
 have hR:=h.Me t 1 (by omega) hn
 have hu:=t.Kt
 have e1:(decide (ak N+1≤8) && decide (n+1≤40))=z:=by
  rcases hz with ⟨rfl,hr⟩|⟨rfl,hr⟩
  ·obtain ⟨r1,r2⟩:=hr
   have:¬8≤ak N:=fun x=>r1 (hu.2 x)
   rw [decide_eq_true (by omega),decide_eq_true (by omega)];rfl
  ·by_cases h1:ai N<0
   ·have:=hu.1 h1
    rw [decide_eq_false (by omega)];rfl
   ·have:¬n<40:=fun x=>hr ⟨h1,x⟩
    rw [decide_eq_false (p:=n+1≤40) (by omega),Bool.and_false]
 rw [e1] at hR
 exact hR
structure FOk (D:DS) (N:Ns) (n s:Nat):Prop where
 lv:bu D.T
 num:dF D.T s
 sm:Sm 900 D.T
 jW:Given D
 live:Live D N
 few:n<10000
theorem QF.UB (h:QF w f D g n) (t:dM w b g M N) (p:List UInt8) (pr:Int) (mk:Bool) (hp:¬(1≤pr∧pr≤3)) :
 Calls Tryz.prog 175 #[wp f,wp b,tx p,.int .i64 pr,.bool mk] w fun y w'=>y=.returned (.tuple #[.int .i64 0,eQ 1])∧dG w w' f D g b N:=by
 have hU:=GK w pr
 have e1:(decide (1≤pr) && decide (pr≤3))=false:=by
  simp only [Bool.and_eq_false_iff,decide_eq_false_iff_not];omega
 rw [e1] at hU
 have hs:=h.same t (Below.refl _ w)
 go_enter Tryz.func175,Tryz.ntmps175
 go_wp2_with (go_at_call 247;refine hU.mono ?_;rintro y w1 ⟨rfl,hw1⟩;subst w1)
 go_ret2
 exact ⟨rfl,hs⟩
theorem D6 (w:World) {pr:Int}(hp:1≤pr∧pr≤3):Calls Tryz.prog 247 #[.int .i64 pr] w fun e w'=>e=.returned (.bool true)∧w'=w:=by
 have hU:=GK w pr
 have e1:(decide (1≤pr) && decide (pr≤3))=true:=by simp;omega
 rw [e1] at hU
 exact hU
theorem QF.PQ (h:QF w f D g n) (t:dM w b g M N) (p:List UInt8) (pr:Int) (mk:Bool) (hp:1≤pr∧pr≤3) (hr:¬roomy N n) (hn:n<10000) :
 Calls Tryz.prog 175 #[wp f,wp b,tx p,.int .i64 pr,.bool mk] w fun y w'=>y=.returned (.tuple #[.int .i64 0,eQ 12])∧dG w w' f D g b N:=by
 have hU:=D6 w hp
 have hR:=h.Rb t hn (z:=false) (.inr ⟨rfl,hr⟩)
 have hs:∀w',Below w.heap.size w w'→dG w w' f D g b N:=fun w' hb=>h.same t hb
 go_enter Tryz.func175,Tryz.ntmps175
 go_wp2_with (first
  |(go_at_call 247;refine hU.mono ?_;rintro y w1 ⟨rfl,hw1⟩;subst w1)
  |(go_at_call 248;refine hR.mono ?_;rintro y w2 ⟨rfl,b2⟩))
 go_ret2
 exact ⟨rfl,hs _ b2⟩
theorem QF.kI (h:QF w f D g n) (t:dM w b g M N) (p:List UInt8) (pr:Int) (mk:Bool) (hp:1≤pr∧pr≤3) (hr:roomy N n) (hn:n<10000) {c:Int}
 (hN:∀V,Below w.heap.size w V→Calls Tryz.prog 249 #[wp f,tx p,.bool mk] V fun e w'=>(∃k,e=.returned (.tuple #[.int .i64 k,eQ c]))∧dG w w' f D g b N) :
 Calls Tryz.prog 175 #[wp f,wp b,tx p,.int .i64 pr,.bool mk] w fun y w'=>y=.returned (.tuple #[.int .i64 0,eQ c])∧dG w w' f D g b N:=by
 have hU:=D6 w hp
 have hR:=h.Rb t hn (z:=true) (.inl ⟨rfl,hr⟩)
 go_enter Tryz.func175,Tryz.ntmps175
 go_wp2_with (first
  |(go_at_call 247;refine hU.mono ?_;rintro y w1 ⟨rfl,hw1⟩;subst w1)
  |(go_at_call 248;refine hR.mono ?_;rintro y w2 ⟨rfl,b2⟩)
  |(go_at_call 249;refine (hN _ b2).mono ?_;rintro y w3 ⟨⟨k,rfl⟩,hG⟩))
 go_ret2
 exact ⟨rfl,hG⟩
theorem rZ.hold (hq:rZ w w1 f D T' g n b M N) (hT:bu T') (x:Int) (hx0:0≤x) (hx1:x<100000) (hx:∀b y,T' x=some (.file b y)→y+1≤1000):Calls Tryz.prog 250 #[wp g.r,.int .i64 x] w1 fun e w'=>e=.returned (aI (dY T' x 1))∧rZ w w' f D (dh T' x 1) g n b M N:=by
 obtain ⟨⟨g1,a1,a2,a3,a4,a5,a6⟩,wt⟩:=hq
 rw [←a5]
 refine (a1.ads a2 hT x hx0 hx1 hx).mono ?_
 rintro e w' ⟨rfl,⟨⟨g2,c1,c2,c3,c4,c5,c6⟩,Fp⟩⟩
 refine ⟨rfl,⟨⟨g2,c1,c2,fun i hi=>(c3 i (Nat.lt_of_lt_of_le hi wt.size)).trans (a3 i hi),c4.trans a4,c5.trans a5,c6.trans a6⟩,wt.weaken Fp (fun i hi z=>?_)⟩⟩
 rcases z with z|z
 ·exact .inl (by rw [←a3 i hi];exact z)
 ·exact .inr z
theorem rZ.cell0 (hq:rZ w w1 f D T' g n b M N):w1.cell? ⟨f,0,none⟩=some (wp g.r):=by
 obtain ⟨⟨g1,a1,a2,a3,a4,a5,_⟩,wt⟩:=hq
 rw [←a5];exact a1.cells.1
theorem rZ.add (hq:rZ w w1 f D T' g n b M N) (hg:Given D) (hl:¬ai N<0) (hL:Live D N) (hn:n<10000) (pr nd:Int) :
 Calls Tryz.prog 251 #[wp f,wp b,wp w1.heap.size] (w1.alloc (.cells #[.int .i64 1,.int .i64 pr,.int .i64 0,.int .i64 nd,.int .i64 0,.pointer none] 296)) fun x w'=>x=.returned (.int .i64 (ai N))∧dG w w' f (jL { D with T:=T' } ⟨1,pr,nd,0,0⟩) g b (addN D N):=by
 obtain ⟨⟨g1,a1,a2,a3,a4,a5,_⟩,wt⟩:=hq
 obtain ⟨n1,n2,n3⟩:=hg.new
 refine (a1.zh (e:=⟨1,pr,nd,0,0⟩) (q:=w1.heap.size) a2 ((Below.refl _ w1).alloc (Nat.le_refl _) _) (Nat.le_refl _) (Mm _ _ _ _ _ _ _ _) n1 hg.n0 hl hL hn).mono ?_
 rintro x w' ⟨rfl,hG⟩
 exact ⟨rfl,dG.after a3 a4 a5 wt hG.go⟩
theorem QF.MQ {s:Nat}{Q:Int→Wd→Prop}(h:QF w f D g n) (t:dM w b g M N) (p:List UInt8) (pr:Int) (mk:Bool) (hp:1≤pr∧pr≤3) (hr:roomy N n) (ok:FOk D N n s)
 (hN:∀V,Below w.heap.size w V→Calls Tryz.prog 249 #[wp f,tx p,.bool mk] V fun e w'=>∃k T1,e=.returned (.tuple #[.int .i64 k,.nilIface])∧Q k T1∧rZ w w' f D T1 g n b M N)
 (hQ:∀k T1,Q k T1→bu T1∧0≤k∧k<100000∧∀b y,T1 k=some (.file b y)→y+1≤1000) :
 Calls Tryz.prog 175 #[wp f,wp b,tx p,.int .i64 pr,.bool mk] w fun y w'=>∃k T1,Q k T1∧((dY T1 k 1≠0∧y=.returned (.tuple #[.int .i64 0,eQ (dY T1 k 1)])∧dG w w' f { D with T:=dh T1 k 1 } g b N)∨(dY T1 k 1=0∧y=.returned (.tuple #[.int .i64 (ai N),.nilIface])∧dG w w' f (jL { D with T:=dh T1 k 1 } ⟨1,pr,k,0,0⟩) g b (addN D N))):=by
 have hU:=D6 w hp
 have hR:=h.Rb t ok.few (z:=true) (.inl ⟨rfl,hr⟩)
 have HH:Aside (∀k T1 V,Q k T1→rZ w V f D T1 g n b M N→V.cell? ⟨f,0,none⟩=some (wp g.r)∧Calls Tryz.prog 250 #[wp g.r,.int .i64 k] V fun e w'=>∃c,e=.returned (aI c)∧c=dY T1 k 1∧rZ w w' f D (dh T1 k 1) g n b M N):=fun k T1 V hq hV=>by
  obtain ⟨l1,l2,l3,l4⟩:=hQ k T1 hq
  refine ⟨hV.cell0,(hV.hold l1 k l2 l3 l4).mono ?_⟩
  rintro e w' ⟨rfl,st⟩
  exact ⟨_,rfl,rfl,st⟩
 have HA:Aside (∀k T2 V,rZ w V f D T2 g n b M N→Calls Tryz.prog 251 #[wp f,wp b,wp V.heap.size] (V.alloc (.cells #[.int .i64 1,.int .i64 pr,.int .i64 0,.int .i64 k,.int .i64 0,.pointer none] 296)) fun x w'=>x=.returned (.int .i64 (ai N))∧dG w w' f (jL { D with T:=T2 } ⟨1,pr,k,0,0⟩) g b (addN D N)):=fun k T2 V hV=>hV.add ok.jW hr.1 ok.live ok.few pr k
 generalize ai N=L at *
 go_enter Tryz.func175,Tryz.ntmps175
 go_upto_region 6 with (first
  |(go_at_call 247;refine hU.mono ?_;rintro y w1 ⟨rfl,hw1⟩;subst w1)
  |(go_at_call 248;refine hR.mono ?_;rintro y w2 ⟨rfl,b2⟩)
  |(go_at_call 249;refine (hN _ b2).mono ?_;rintro y w3 ⟨k,T1,rfl,hq,hst⟩))
 obtain ⟨c0,hHd⟩:=HH.out k T1 _ hq hst
 have HQ1:Aside (Q k T1):=hq
 go_upto_region 9 with (go_at_call 250;refine hHd.mono ?_;rintro y w4 ⟨c,rfl,hc,acE⟩;have HC:Aside _:=hc;have HS:Aside _:=acE;clear hc acE)
 by_cases hz:c=0
 ·subst hz
  have hA:=HA.out k _ _ HS.out
  have HE:Aside (dY T1 k 1=0):=HC.out.symm
  have hu0:aI 0=.nilIface:=rfl
  rw [hu0]
  go_wp2_with (go_at_call 251;refine hA.mono ?_;rintro y w5 ⟨rfl,hG⟩)
  go_ret2
  exact ⟨k,T1,HQ1.out,.inr ⟨HE.out,rfl,hG⟩⟩
 ·rw [ax hz]
  have HE:Aside (dY T1 k 1≠0∧c=dY T1 k 1):=⟨fun e=>hz (HC.out.trans e),HC.out⟩
  have HG:=HS.out.go
  go_wp2_with fail
  go_ret2
  exact ⟨k,T1,HQ1.out,.inl ⟨HE.out.1,by rw [←HE.out.2];rfl,HG⟩⟩
theorem QF.nD (h:QF w f D g n) (t:dM w b g M N) {s:Nat}(ok:FOk D N n s) (p:List UInt8) (hpl:p.length<100000) (pr:Int) (mk:Bool) (hm:w.cell? ⟨4,0,none⟩=some (.int .i64 m)) (hg:w.cell? ⟨0,0,none⟩=some iB) :
 Calls Tryz.prog 175 #[wp f,wp b,tx p,.int .i64 pr,.bool mk] w fun y w'=>∃k c D' N',y=.returned (.tuple #[.int .i64 k,aI c])∧iN D N n s p pr mk k c D' N'∧dG w w' f D' g b N':=by
 by_cases hp:1≤pr∧pr≤3
 ·by_cases hr:roomy N n
  ·by_cases h7:(aF D.T p).2=7∧mk=true
   ·obtain ⟨hE,rfl⟩:=h7
    have hNd:∀V,Below w.heap.size w V→_:=fun V hV=>(h.below hV).OZ (t.below hV) ok.lv ok.num p hpl (cell_below hm hV) (cell_below hg hV) (fun k C e=>by have:=ok.sm.1 k C e;omega) hE
    by_cases hM:aY D.T s p=0
    ·refine (h.MQ t p pr true hp hr ok (Q:=fun k T1=>gq D.T k∧k<64∧T1=je D.T p false k) (fun V hV=>(hNd V hV).mono ?_) ?_).mono ?_
     ·rintro e w' (⟨a,_⟩|⟨a,k,c1,c2,rfl,st⟩)
      ·exact absurd hM a
      ·exact ⟨k,_,rfl,⟨c1,c2,rfl⟩,st.upon hV⟩
     ·rintro k T1 ⟨c1,c2,rfl⟩
      have hmh:=rF ok.lv.toTrOk hM c1
      exact ⟨ok.lv.make hM c1 c2 false,c1.pos,by omega,fun b y e=>by have:=hmh.2 b y e;omega⟩
     ·rintro y w' ⟨k,T1,⟨c1,c2,rfl⟩,hx⟩
      have hmh:=rF ok.lv.toTrOk hM c1
      rcases hx with ⟨hx,_⟩|⟨_,rfl,hG⟩
      ·exact absurd hmh.1 hx
      ·exact ⟨_,0,_,_,rfl,.made hp hr hE rfl hM k c1,hG⟩
    ·refine (h.kI t p pr true hp hr ok.few (c:=aY D.T s p) (fun V hV=>(hNd V hV).mono ?_)).mono ?_
     ·rintro e w' (⟨a,rfl,st⟩|⟨a,_⟩)
      ·exact ⟨⟨_,rfl⟩,(st.upon hV).go⟩
      ·exact absurd a hM
     ·rintro y w' ⟨rfl,hG⟩
      exact ⟨0,_,D,N,by rw [ax hM],.yQ hp hr hE rfl hM,hG⟩
   ·have hNd:∀V,Below w.heap.size w V→_:=fun V hV=>(h.below hV).O0 ok.lv p hpl (cell_below hm hV) (cell_below hg hV) mk h7
    by_cases hE:(aF D.T p).2=0
    ·have hsome:=mH ok.lv.toTrOk hE
     have hkey:=ok.lv.key _ hsome
     refine (h.MQ t p pr mk hp hr ok (Q:=fun k T1=>k=(aF D.T p).1∧T1=D.T) (fun V hV=>(hNd V hV).mono ?_) ?_).mono ?_
     ·rintro e w' ⟨rfl,b1⟩
      exact ⟨_,D.T,by rw [hE];rfl,⟨rfl,rfl⟩,(h.below hV |>.still (t.below hV) b1).upon hV⟩
     ·rintro k T1 ⟨rfl,rfl⟩
      exact ⟨ok.lv,hkey.1,by omega,fun b y e=>by have:=(ok.sm.2 _ b y e).1;omega⟩
     ·rintro y w' ⟨k,T1,⟨rfl,rfl⟩,hx⟩
      rcases hx with ⟨hx,rfl,hG⟩|⟨hx,rfl,hG⟩
      ·rw [Uv hx] at hG
       exact ⟨0,_,D,N,by rw [ax hx],.dir hp hr hE hx,hG⟩
      ·exact ⟨_,0,_,_,rfl,.opened hp hr hE hx,hG⟩
    ·refine (h.kI t p pr mk hp hr ok.few (c:=(aF D.T p).2) (fun V hV=>(hNd V hV).mono ?_)).mono ?_
     ·rintro e w' ⟨rfl,b1⟩
      exact ⟨⟨_,by rw [ax hE]⟩,h.same t (hV.trans (b1.mono hV.size))⟩
     ·rintro y w' ⟨rfl,hG⟩
      exact ⟨0,_,D,N,by rw [ax hE],.no hp hr hE h7,hG⟩
  ·refine (h.PQ t p pr mk hp hr ok.few).mono ?_
   rintro y w' ⟨rfl,hG⟩
   exact ⟨0,12,D,N,rfl,.full hp hr,hG⟩
 ·refine (h.UB t p pr mk hp).mono ?_
  rintro y w' ⟨rfl,hG⟩
  exact ⟨0,1,D,N,rfl,.arg hp,hG⟩
end
abbrev sI:Array Value:=#[.int .i64 0,.int .i64 0,.int .i64 0,.int .i64 0,.int .u8 0,.int .u8 0,.int .u8 0,.int .u8 0,.int .u8 0,.int .u8 0,.int .u8 0,.int .u8 0,.int .u8 0,.int .u8 0,.int .u8 0,.int .u8 0,.int .u8 0,.int .u8 0,.int .u8 0,.int .u8 0,.int .i64 0]
theorem aaJ (w:World) (t:TypeId):Tb (w.alloc (.cells sI t)) w.heap.size 0 0 []:=by
 have hn:(w.alloc (.cells sI t)).heap[w.heap.size]? = some (.cells sI t):=by
  show (w.heap.push _)[w.heap.size]? = _
  rw [Array.getElem?_push,if_pos rfl]
 refine ⟨by simp,?_,?_,fun k hk=>?_,?_,fun k _=>?_⟩
 ·rw [cell_of_row _ _ _ _ _ _ hn];rfl
 ·rw [cell_of_row _ _ _ _ _ _ hn];rfl
 ·rw [cell_of_row _ _ _ _ _ _ hn,DX _ _ (Nat.zero_le _)]
  have:k=0∨k=1∨k=2∨k=3∨k=4∨k=5∨k=6∨k=7∨k=8∨k=9∨k=10∨k=11∨k=12∨k=13∨k=14∨k=15:=by omega
  rcases this with rfl|rfl|rfl|rfl|rfl|rfl|rfl|rfl|rfl|rfl|rfl|rfl|rfl|rfl|rfl|rfl<;>rfl
 ·rw [cell_of_row _ _ _ _ _ _ hn];rfl
 ·unfold World.frozen?
  simp only
  rw [hn]
  simp
section
variable {w w' w2 w0 w1:World}{f b n q:Nat}{D D':DS}{g g' g1:QG}{M N N':Ns}{d k m:Int}{e:En}{T':Wd}
def Vg (D:DS) (p:Int) (x:Pi) (kd:Int):DS:={ D with P:=fun i=>if i=p then some (x.1,opF x.2.1 kd,opI x.2.2 kd) else D.P i }
theorem QF.WS (h:QF w f D g n) (t:dM w b g M N) {p:Int}{x:Pi}(hp:D.P p=some x) (hF:0≤x.2.1∧x.2.1<1000) (hI:0≤x.2.2∧x.2.2<1000) (kd pr:Int) (hkd:kd≠1) (hE:D.E (D.nx+1)=none) (h0:0≤D.nx) (hl:¬ai N<0) (hL:Live D N) (hn:n<10000) :
 Calls Tryz.prog 309 #[wp (g.Q p),.int .i64 kd] w fun y w'=>(∃v,y=.returned v)∧Calls Tryz.prog 251 #[wp f,wp b,wp w'.heap.size] (w'.alloc (.cells #[.int .i64 kd,.int .i64 pr,.int .i64 0,.int .i64 0,.int .i64 0,wp (g.Q p)] 296)) fun x9 w2=>x9=.returned (.int .i64 (ai N))∧Nt w w2 f (jL (Vg D p x kd) ⟨kd,pr,0,p,0⟩) g b (addN D N) (n+1):=by
 obtain ⟨tb,tk⟩:=h.pipe p x hp
 refine (tb.rf kd hF.1 hF.2 hI.1 hI.2).mono ?_
 rintro y w' ⟨rfl,Zt,hg⟩
 refine ⟨⟨_,rfl⟩,?_⟩
 have h1:QF w' f (Vg D p x kd) g n:=h.piped hp (x':=(x.1,opF x.2.1 kd,opI x.2.2 kd)) Zt hg
 have t1:=t.sJ (by rw [tk];rfl) hg
 have hpv:pv g ⟨kd,pr,0,p,0⟩=wp (g.Q p):=if_neg hkd
 refine (h1.zh (e:=⟨kd,pr,0,p,0⟩) (q:=w'.heap.size) t1 ((Below.refl _ w').alloc (Nat.le_refl _) _) (Nat.le_refl _) (by rw [kN,hpv];exact Mm _ _ _ _ _ _ _ _) hE h0 hl hL hn).mono ?_
 rintro z w2 ⟨rfl,⟨⟨g',M',a,c,x9,y9⟩,wt⟩⟩
 exact ⟨rfl,⟨g',M',a,c,⟨fun i hi=>x9.dC i (Nat.lt_of_lt_of_le hi hg.size),x9.key,x9.r⟩,y9⟩,(Wt.grown hg (.inl (by rw [tk];rfl))).trans wt⟩
theorem QF.Dl (h:QF w f D g n) (t:dM w b g M N) {p:Int}{x:Pi}(hp:D.P p=some x) (hF:0≤x.2.1∧x.2.1<1000) (hI:0≤x.2.2∧x.2.2<1000) (kd pr:Int) (hkd:kd≠1) (hE:D.E (D.nx+1)=none) (h0:0≤D.nx) (hl:¬ai N<0) (hL:Live D N) (hn:n<10000) :
 Calls Tryz.prog 252 #[wp f,wp b,wp (g.Q p),.int .i64 kd,.int .i64 pr] w fun x9 w2=>x9=.returned (.int .i64 (ai N))∧Nt w w2 f (jL (Vg D p x kd) ⟨kd,pr,0,p,0⟩) g b (addN D N) (n+1):=by
 have hO:=h.WS t hp hF hI kd pr hkd hE h0 hl hL hn
 generalize jL (Vg D p x kd) ⟨kd,pr,0,p,0⟩=D2 at *
 generalize addN D N=N2 at *
 generalize ai N=L at *
 generalize hQ:g.Q p=q at *
 go_enter Tryz.func252,Tryz.ntmps252
 go_wp2_with (first
  |(go_at_call 309;refine hO.mono ?_;rintro y w1 ⟨⟨v,rfl⟩,hA⟩)
  |(go_at_call 251;refine hA.mono ?_;rintro y w2 ⟨rfl,hG⟩))
 go_ret
 exact ⟨rfl,hG⟩
theorem QF.YY (h:QF w f D g n) (t:dM w b g M N) (hn:n<10000) {z:Bool}(hz:(z=true∧¬(ak N+2 > 8∨n+2 > 40))∨(z=false∧(ak N+2 > 8∨n+2 > 40))):Calls Tryz.prog 248 #[wp f,wp b,.int .i64 2] w fun e w'=>e=.returned (.bool z)∧Below w.heap.size w w':=by
 have hR:=h.Me t 2 (by omega) hn
 have e1:(decide (ak N+2≤8) && decide (n+2≤40))=z:=by
  rcases hz with ⟨rfl,hr⟩|⟨rfl,hr⟩
  ·rw [decide_eq_true (by omega),decide_eq_true (by omega)];rfl
  ·by_cases h1:ak N+2≤8
   ·rw [decide_eq_false (p:=n+2≤40) (by omega),Bool.and_false]
   ·rw [decide_eq_false h1];rfl
 rw [e1] at hR
 exact hR
theorem QF.WL (h:QF w f D g n) (t:dM w b g M N) (hf:ak N+2 > 8∨n+2 > 40) (hn:n<10000) :
 Calls Tryz.prog 177 #[wp f,wp b] w fun x w'=>x=.returned (.tuple #[.int .i64 0,.int .i64 0,eQ 12])∧dG w w' f D g b N:=by
 have hR:=h.YY t hn (.inr ⟨rfl,hf⟩)
 have hs:∀w',Below w.heap.size w w'→dG w w' f D g b N:=fun w' hb=>h.same t hb
 go_enter Tryz.func177,Tryz.ntmps177
 go_wp2_with (go_at_call 248;refine hR.mono ?_;rintro y w1 ⟨rfl,b1⟩)
 go_ret3
 exact ⟨rfl,hs _ b1⟩
theorem OG (D:DS):jL (Vg (jL (Vg { D with P:=fun i=>if i=D.nx+1 then some ([],0,0) else D.P i,nx:=D.nx+1 } (D.nx+1) ([],0,0) 2) ⟨2,1,0,D.nx+1,0⟩) (D.nx+1) ([],1,0) 3) ⟨3,2,0,D.nx+1,0⟩=xg D:=by
 unfold xg qA lV Vg jL
 simp only [DS.mk.injEq,true_and,and_true]
 funext i
 by_cases e:i=D.nx+1
 ·simp [e,opF,opI]
 ·simp [e]
theorem Live.add {D:DS}{N:Ns}(h:Live D N) (e:En):Live (jL D e) (addN D N):=fun i hi h0=>by
 show (if (addN D N)[i].1=D.nx+1 then some e else D.E (addN D N)[i].1).isSome=true
 by_cases e1:(addN D N)[i].1=D.nx+1
 ·rw [if_pos e1];rfl
 ·rw [if_neg e1]
  unfold addN at e1 h0 hi ⊢
  rw [List.length_set] at hi
  by_cases e2:(ai N).toNat=i
  ·rw [List.getElem_set] at e1
   rw [if_pos e2] at e1
   exact absurd rfl e1
  ·rw [List.getElem_set_ne e2] at h0 ⊢
   exact h i hi h0
theorem QF.zA (h:QF w f D g n) (t:dM w b g M N) (hG:Given D) (hg:D.nx<4990) (hE:∀d e,D.E d=some e→e.pipe≠D.nx+1∨e.kind=1) (hf:¬(ak N+2 > 8∨n+2 > 40)) (hl1:¬ai N<0) (hl2:¬ai (dK D N)<0) (hL:Live D N) :
 Calls Tryz.prog 177 #[wp f,wp b] w fun x w'=>x=.returned (.tuple #[.int .i64 (ai N),.int .i64 (ai (dK D N)),.nilIface])∧dG w w' f (xg D) g b (BH D N):=by
 have hn:n<10000:=by omega
 have hR:=h.YY t hn (.inl ⟨rfl,hf⟩)
 have hnew:=hG.new
 have H1:∀V,Below w.heap.size w V→Calls Tryz.prog 252 #[wp f,wp b,wp V.heap.size,.int .i64 2,.int .i64 1] (V.alloc (.cells sI 300)) fun x9 w2=>x9=.returned (.int .i64 (ai N))∧Calls Tryz.prog 252 #[wp f,wp b,wp V.heap.size,.int .i64 3,.int .i64 2] w2 fun x8 w3=>x8=.returned (.int .i64 (ai (dK D N)))∧dG w w3 f (xg D) g b (BH D N):=fun V hV=>by
  have hV':=h.below hV
  have bA:Below V.heap.size V (V.alloc (.cells sI 300)):=(Below.refl _ V).alloc (Nat.le_refl _) _
  obtain ⟨g1,a1,a2,a3,a4,a5⟩:=hV'.Xj (q:=V.heap.size) (p:=D.nx+1) (Nat.le_refl _) (by show V.heap.size<(V.heap.push _).size;rw [Array.size_push];omega) bA hnew.2.2 hE (x:=([],0,0)) (aaJ V _) (D.nx+1)
  have hbl:b<V.heap.size:=(t.below hV).tab.lt
  have t1:dM (V.alloc (.cells sI 300)) b g1 M N:=(t.below hV).Ra (bA.block b hbl) a2 a3
  have hg0:=hG.n0
  have hE1:D.E (D.nx+1+1)=none:=by
   cases hx:D.E (D.nx+1+1) with
   |none=>rfl
   |some e=>have:=hG.e _ (by rw [hx];rfl);omega
  rw [←a5]
  refine (a1.Dl t1 (p:=D.nx+1) (x:=([],0,0)) (if_pos rfl) ⟨by simp,by simp⟩ ⟨by simp,by simp⟩ 2 1 (by omega) hE1 (show 0≤D.nx+1 by omega) hl1 hL hn).mono ?_
  rintro y w2 ⟨rfl,⟨⟨g2,M2,c1,c2,c3,c4⟩,Fp⟩⟩
  refine ⟨rfl,?_⟩
  rw [←c4]
  have hN1:addN { D with P:=fun i=>if i=D.nx+1 then some ([],0,0) else D.P i,nx:=D.nx+1 } N=dK D N:=rfl
  rw [hN1] at c2
  have hL1:Live (jL (Vg { D with P:=fun i=>if i=D.nx+1 then some ([],0,0) else D.P i,nx:=D.nx+1 } (D.nx+1) ([],0,0) 2) ⟨2,1,0,D.nx+1,0⟩) (dK D N):=Live.add (D:=Vg { D with P:=fun i=>if i=D.nx+1 then some ([],0,0) else D.P i,nx:=D.nx+1 } (D.nx+1) ([],0,0) 2) (N:=N) hL _
  have hE2:(jL (Vg { D with P:=fun i=>if i=D.nx+1 then some ([],0,0) else D.P i,nx:=D.nx+1 } (D.nx+1) ([],0,0) 2) ⟨2,1,0,D.nx+1,0⟩).E (D.nx+1+1+1)=none:=by
   show (if D.nx+1+1+1=D.nx+1+1 then _ else D.E (D.nx+1+1+1))=none
   rw [if_neg (by omega)]
   cases hx:D.E (D.nx+1+1+1) with
   |none=>rfl
   |some e=>have:=hG.e _ (by rw [hx];rfl);omega
  refine (c1.Dl c2 (p:=D.nx+1) (x:=([],1,0)) (show (if D.nx+1=D.nx+1 then _ else _)=_ from if_pos rfl) ⟨by simp,by simp⟩ ⟨by simp,by simp⟩ 3 2 (by omega) hE2 (show 0≤D.nx+1+1 by omega) hl2 hL1 (by omega)).mono ?_
  rintro y w3 ⟨rfl,hQ⟩
  rw [OG] at hQ
  refine ⟨rfl,?_⟩
  obtain ⟨⟨g3,M3,d1,d2,d3,d4⟩,wt3⟩:=hQ
  have hs1:=hV.size
  have hs2:=bA.size
  have hs3:=Fp.size
  have hkp:∀i,i<w.heap.size→g1.dC i=g.dC i:=fun i hi=>a2 i (by omega)
  have FD:∀i,i<w.heap.size→g2.dC i=g.dC i:=fun i hi=>(c3.dC i (by omega)).trans (hkp i hi)
  have Fs:Wt (fun i=>(g.dC i).isSome=true∨i=b) w (V.alloc (.cells sI 300)):=Wt.below _ (hV.trans (bA.mono hV.size))
  refine ⟨⟨g3,_,M3,d1,d2,⟨fun i hi=>(d3.dC i (by omega)).trans (FD i hi),fun k d hk hd=>?_,d3.r.trans (c3.r.trans a4)⟩⟩,(Fs.weaken Fp (fun i hi z=>?_)).weaken wt3 (fun i hi z=>?_)⟩
  ·refine d3.key k d (c3.key k d (by rw [a3];exact hk) ?_) hd
   show (if d=D.nx+1+1 then some _ else D.E d).isSome=true
   split
   ·rfl
   ·exact (h.key k d hk).1
  ·rcases z with z|z
   ·exact .inl (by rw [←hkp i hi];exact z)
   ·exact .inr z
  ·rcases z with z|z
   ·exact .inl (by rw [←FD i hi];exact z)
   ·exact .inr z
 generalize ai (dK D N)=L2 at *
 generalize ai N=L1 at *
 generalize xg D=D2 at *
 generalize BH D N=N2 at *
 go_enter Tryz.func177,Tryz.ntmps177
 go_upto_region 4 with (go_at_call 248;refine hR.mono ?_;rintro y w1 ⟨rfl,b1⟩)
 have hA:=H1 _ b1
 go_wp2_with (first
  |(go_at_call 252;refine hA2.mono ?_;rintro y w3 ⟨rfl,hG⟩)
  |(go_at_call 252;refine hA.mono ?_;rintro y w2 ⟨rfl,hA2⟩))
 go_ret3
 exact ⟨rfl,hG⟩
end
section
variable {w w' w2 w0 w1:World}{f b n q:Nat}{D D':DS}{g g' g1:QG}{M N N':Ns}{d k m:Int}{e:En}{T':Wd}
theorem QF.Ca (h:QF w f D g n) (t:dM w b g M N) (x u:Int) (hx:aJ N x=false):Calls Tryz.prog 253 #[wp f,wp b,.int .i64 x,.int .i64 u] w fun y w'=>y=.returned (.tuple #[.pointer none,eQ 7])∧Below w.heap.size w w':=by
 have hF:=h.j4 t x hx
 go_enter Tryz.func253,Tryz.ntmps253
 go_wp2_with (go_at_call 219;refine hF.mono ?_;rintro y w1 ⟨rfl,b1⟩)
 go_ret2
 exact ⟨rfl,b1⟩
theorem QF.vv (h:QF w f D g n) (t:dM w b g M N) {i:Nat}(hi:i<8) (aG:i<N.length) (h0:0<N[i].1) (he:D.E N[i].1=some e) (u:Int) (hu:(u=1∧e.af=2)∨(u=2∧e.af=1)):Calls Tryz.prog 253 #[wp f,wp b,.int .i64 (i:Int),.int .i64 u] w fun y w'=>y=.returned (.tuple #[.pointer none,eQ 13])∧Below w.heap.size w w':=by
 have hF:=h.ay t hi aG h0
 have hc:∀V,Below w.heap.size w V→V.cell? ⟨g.B N[i].1,1,none⟩=some (.int .i64 e.af):=fun V hV=>by
  obtain ⟨c,h1,_⟩:=(h.below hV).gF _ e he
  exact ((h.below hV).lU he h1).2.1
 generalize g.B N[i].1=q at *
 generalize e.af=pr at *
 rcases hu with ⟨rfl,rfl⟩|⟨rfl,rfl⟩
 ·go_enter Tryz.func253,Tryz.ntmps253
  go_wp2_with (go_at_call 219;refine hF.mono ?_;rintro y w1 ⟨rfl,b1⟩;have c1:=hc _ b1)
  go_ret2
  exact ⟨rfl,b1⟩
 ·go_enter Tryz.func253,Tryz.ntmps253
  go_wp2_with (go_at_call 219;refine hF.mono ?_;rintro y w1 ⟨rfl,b1⟩;have c1:=hc _ b1)
  go_ret2
  exact ⟨rfl,b1⟩
theorem QF.mo (h:QF w f D g n) (t:dM w b g M N) {i:Nat}(hi:i<8) (aG:i<N.length) (h0:0<N[i].1) (he:D.E N[i].1=some e) (u:Int) (hu:(u=1∧(e.af=1∨e.af=3))∨(u=2∧(e.af=2∨e.af=3))):Calls Tryz.prog 253 #[wp f,wp b,.int .i64 (i:Int),.int .i64 u] w fun y w'=>y=.returned (.tuple #[wp (g.B N[i].1),.nilIface])∧Below w.heap.size w w':=by
 have hF:=h.ay t hi aG h0
 have hc:∀V,Below w.heap.size w V→V.cell? ⟨g.B N[i].1,1,none⟩=some (.int .i64 e.af):=fun V hV=>by
  obtain ⟨c,h1,_⟩:=(h.below hV).gF _ e he
  exact ((h.below hV).lU he h1).2.1
 generalize g.B N[i].1=q at *
 generalize e.af=pr at *
 rcases hu with ⟨rfl,rfl|rfl⟩|⟨rfl,rfl|rfl⟩
 all_goals
  go_enter Tryz.func253,Tryz.ntmps253
  go_wp2_with (go_at_call 219;refine hF.mono ?_;rintro y w1 ⟨rfl,b1⟩;have c1:=hc _ b1)
  go_ret2
  exact ⟨rfl,b1⟩
theorem QF.Mg (h:QF w f D g n) (t:dM w b g M N) (x a c:Int) (hc:c≠0) (hU:Calls Tryz.prog 253 #[wp f,wp b,.int .i64 x,.int .i64 1] w fun y w'=>y=.returned (.tuple #[.pointer none,eQ c])∧Below w.heap.size w w') :
 Calls Tryz.prog 179 #[wp f,wp b,.int .i64 x,.int .i64 a] w fun y w'=>y=.returned (.tuple #[tx [],aI c])∧dG w w' f D g b N:=by
 have hs:∀w',Below w.heap.size w w'→dG w w' f D g b N:=fun w' hb=>h.same t hb
 rw [ax hc]
 go_enter Tryz.func179,Tryz.ntmps179
 go_wp2_with (go_at_call 253;refine hU.mono ?_;rintro y w1 ⟨rfl,b1⟩)
 go_ret2
 exact ⟨rfl,hs _ b1⟩
theorem QF.Tt (h:QF w f D g n) (t:dM w b g M N) {i:Nat}(hi:i<8) (aG:i<N.length) (h0:0<N[i].1) (he:D.E N[i].1=some e) (a:Int) (hk:e.kind≠1) (hpr:e.af=1∨e.af=3) {p:Pi}(hp:D.P e.pipe=some p) (hI:0≤p.2.2) :
 Calls Tryz.prog 179 #[wp f,wp b,.int .i64 (i:Int),.int .i64 a] w fun y w'=>y=.returned (.tuple #[tx (p.1.take a.toNat),aI (IQ p.2.2 p.1 a)])∧dG w w' f { D with P:=fun j=>if j=e.pipe then some (p.1.drop a.toNat,p.2.1,p.2.2) else D.P j } g b N:=by
 have hU:=h.mo t hi aG h0 he 1 (.inl ⟨rfl,hpr⟩)
 have hk':(e.kind == 1)=false:=by simpa using hk
 have hpv:pv g e=wp (g.Q e.pipe):=if_neg hk
 have hat:∀V,Below w.heap.size w V→V.cell? ⟨g.B N[i].1,5,none⟩=some (wp (g.Q e.pipe))∧Calls Tryz.prog 254 #[wp (g.B N[i].1)] V (fun x w'=>x=.returned (.bool false)∧w'=V)∧Calls Tryz.prog 255 #[wp (g.Q e.pipe),.int .i64 a] V fun y w'=>y=.returned (.tuple #[tx (p.1.take a.toNat),aI (IQ p.2.2 p.1 a)])∧dG w w' f { D with P:=fun j=>if j=e.pipe then some (p.1.drop a.toNat,p.2.1,p.2.2) else D.P j } g b N:=fun V hV=>by
  have hV':=h.below hV
  obtain ⟨c,h1,_⟩:=hV'.gF _ e he
  have e5:=(hV'.lU he h1).2.2.2.2.2.1
  rw [hpv] at e5
  have hIs:=hV'.oQ he
  rw [hk'] at hIs
  obtain ⟨tb,tk⟩:=hV'.pipe _ p hp
  refine ⟨e5,hIs,(tb.Eg a hI).mono ?_⟩
  rintro y w' ⟨rfl,Zt,hg⟩
  exact ⟨rfl,⟨⟨g,n,M,hV'.piped hp (x':=(p.1.drop a.toNat,p.2.1,p.2.2)) Zt hg,(t.below hV).sJ (by rw [tk];rfl) hg,Ext.refl _ _ _⟩,(Wt.below _ hV).trans (Wt.grown hg (.inl (by rw [tk];rfl)))⟩⟩
 generalize ({ D with P:=fun j=>if j=e.pipe then some (p.1.drop a.toNat,p.2.1,p.2.2) else D.P j }:DS)=D2 at *
 generalize g.B N[i].1=q at *
 generalize g.Q e.pipe=Q at *
 generalize aI (IQ p.2.2 p.1 a)=U at *
 generalize List.take a.toNat p.1=S at *
 go_enter Tryz.func179,Tryz.ntmps179
 go_wp2_with (first
  |(go_at_call 253;refine hU.mono ?_;rintro y w1 ⟨rfl,b1⟩;obtain ⟨c5,hIs,hRd⟩:=hat _ b1)
  |(go_at_call 254;refine hIs.mono ?_;rintro y w2 ⟨rfl,hw2⟩;subst w2)
  |(go_at_call 255;refine hRd.mono ?_;rintro y w3 ⟨rfl,hG⟩))
 go_ret2
 exact ⟨rfl,hG⟩
theorem OC {T:Wd}{x a c:Int}(h:jy T x a c≠0):eU T x a c=[]:=by
 unfold jy at h;unfold eU
 cases hn:T x with
 |none=>rfl
 |some nd=>cases nd with
  |dir C=>rfl
  |file b y=>
   have hf:bF T x=0:=by unfold bF;rw [hn]
   rw [if_neg (fun e=>e hf)] at h
   simp only
   by_cases h9:a<0∨c<0
   ·rw [if_pos h9]
   ·rw [if_neg h9] at h;exact absurd rfl h
theorem QF.OB (h:QF w f D g n) (t:dM w b g M N) {i:Nat}(hi:i<8) (aG:i<N.length) (h0:0<N[i].1) (he:D.E N[i].1=some e) (a:Int) (hk:e.kind=1) (hpr:e.af=1∨e.af=3) (hnd:0≤e.node∧e.node<1000) (hps:0≤e.pos∧e.pos≤200) (hl:(eU D.T e.node e.pos a).length≤100000) :
 Calls Tryz.prog 179 #[wp f,wp b,.int .i64 (i:Int),.int .i64 a] w fun y w'=>y=.returned (.tuple #[tx (eU D.T e.node e.pos a),aI (jy D.T e.node e.pos a)])∧dG w w' f { D with E:=fun j=>if j=N[i].1 then some { e with pos:=e.pos+(eU D.T e.node e.pos a).length } else D.E j } g b N:=by
 have hU:=h.mo t hi aG h0 he 1 (.inl ⟨rfl,hpr⟩)
 have hat:∀V,Below w.heap.size w V→(V.cell? ⟨f,0,none⟩=some (wp g.r)∧V.cell? ⟨g.B N[i].1,3,none⟩=some (.int .i64 e.node)∧V.cell? ⟨g.B N[i].1,4,none⟩=some (.int .i64 e.pos))∧V.frozen? ⟨g.B N[i].1,4,none⟩=false:=fun V hV=>by
  have hV':=h.below hV
  obtain ⟨c,h1,_⟩:=hV'.gF _ e he
  obtain ⟨_,_,_,e3,e4,_,ez⟩:=hV'.lU he h1
  exact ⟨⟨hV'.cells.1,e3,e4⟩,ez 4⟩
 have hIs:∀V,Below w.heap.size w V→Calls Tryz.prog 254 #[wp (g.B N[i].1)] V fun x w'=>x=.returned (.bool true)∧w'=V:=fun V hV=>by
  have:=(h.below hV).oQ he
  rw [hk] at this
  exact this
 have hRd:∀V,Below w.heap.size w V→Calls Tryz.prog 256 #[wp g.r,.int .i64 e.node,.int .i64 e.pos,.int .i64 a] V fun y w'=>y=.returned (.tuple #[tx (eU D.T e.node e.pos a),aI (jy D.T e.node e.pos a)])∧Below w.heap.size w w':=fun V hV=>by
  obtain ⟨O,p,_⟩:=(h.below hV).tree
  refine (p.Eg e.node e.pos a (gU hnd.1 (by omega))).mono ?_
  rintro y w' ⟨rfl,z,rfl⟩
  exact ⟨rfl,⟨hV.os,hV.tape,hV.output,hV.size,hV.block⟩⟩
 obtain ⟨c9,hc9,_,hkb⟩:=h.gF _ e he
 have HF:Aside (∀V,Below w.heap.size w V→dG w (V.setCell ⟨g.B N[i].1,4,none⟩ (.int .i64 (e.pos+(eU D.T e.node e.pos a).length))) f { D with E:=fun j=>if j=N[i].1 then some { e with pos:=e.pos+(eU D.T e.node e.pos a).length } else D.E j } g b N):=fun V hV=>by
  have gg:=aV V (g.B N[i].1) 4 (.int .i64 (e.pos+(eU D.T e.node e.pos a).length))
  exact ⟨⟨g,n,M,(h.below hV).place he _,(t.below hV).sJ (by rw [hkb];rfl) gg,Ext.refl _ _ _⟩,(Wt.below _ hV).trans (Wt.grown gg (.inl (by rw [hkb];rfl)))⟩
 have HE:Aside (jy D.T e.node e.pos a≠0→tx (eU D.T e.node e.pos a)=tx []∧∀V,Below w.heap.size w V→dG w V f { D with E:=fun j=>if j=N[i].1 then some { e with pos:=e.pos+(eU D.T e.node e.pos a).length } else D.E j } g b N):=fun hz=>by
  rw [OC hz]
  refine ⟨rfl,fun V hV=>?_⟩
  have hD:({ D with E:=fun j=>if j=N[i].1 then some { e with pos:=e.pos+(([]:List UInt8).length:Int) } else D.E j }:DS)=D:=by
   have hE:(fun j=>if j=N[i].1 then some { e with pos:=e.pos+(([]:List UInt8).length:Int) } else D.E j)=D.E:=by
    funext j
    by_cases ej:j=N[i].1
    ·rw [if_pos ej,ej,he];simp
    ·rw [if_neg ej]
   rw [hE]
  rw [hD]
  exact h.same t hV
 generalize hD2:({ D with E:=fun j=>if j=N[i].1 then some { e with pos:=e.pos+(eU D.T e.node e.pos a).length } else D.E j }:DS)=D2 at *
 generalize hS9:eU D.T e.node e.pos a=S9 at *
 generalize hC9:jy D.T e.node e.pos a=C9 at *
 generalize g.B N[i].1=q at *
 generalize e.node=nd at *
 generalize e.pos=ps at *
 obtain ⟨ajF,ajE⟩:=hps
 have HW:Aside (wrap64 (ps+(S9.length:Int))=ps+(S9.length:Int)):=by show wrap64 _=_;unfold wrap64;omega
 go_enter Tryz.func179,Tryz.ntmps179
 go_upto_region 6 with (first
  |(go_at_call 253;refine hU.mono ?_;rintro y w1 ⟨rfl,b1⟩)
  |(go_at_call 254;refine (hIs _ b1).mono ?_;rintro y w2 ⟨rfl,hw2⟩;subst w2))
 obtain ⟨hc1,hz1⟩:=hat _ b1
 go_region_held3 (fun w'=>w'.cell? ⟨f,0,none⟩=some (wp g.r)∧w'.cell? ⟨q,3,none⟩=some (.int .i64 nd)∧w'.cell? ⟨q,4,none⟩=some (.int .i64 ps)) (first|exact hc1|exact (hat _ b3).1) (first
  |(go_at_call 256;refine (hRd _ (zS b1)).mono ?_;rintro y w3 ⟨rfl,b3⟩))
 all_goals
  obtain ⟨⟨_,_,k4⟩,kz⟩:=hat _ b3
  by_cases hz:C9=0
  ·have HG:=HF.out _ b3
   have HW9:=HW.out
   subst hz
   rw [show aI 0=.nilIface from rfl]
   go_wp2_with fail
   go_ret2
   exact ⟨rfl,HG⟩
  ·have HX:=HE.out hz
   have HC:Aside (tx S9=tx []∧C9≠0):=⟨HX.1,hz⟩
   rw [ax hz]
   have HG:=HX.2 _ b3
   go_wp2_with fail
   go_ret2
   exact ⟨by rw [HC.out.1,ax HC.out.2];rfl,HG⟩
end
section
variable {w w' w2 w0 w1:World}{f b n q:Nat}{D D':DS}{g g' g1:QG}{M N N':Ns}{d k m:Int}{e:En}{T':Wd}
theorem QF.FZ (h:QF w f D g n) (t:dM w b g M N) (x:Int) (s:List UInt8) (a c:Int) (hc:c≠0) (hU:Calls Tryz.prog 253 #[wp f,wp b,.int .i64 x,.int .i64 2] w fun y w'=>y=.returned (.tuple #[.pointer none,eQ c])∧Below w.heap.size w w') :
 Calls Tryz.prog 187 #[wp f,wp b,.int .i64 x,tx s,.int .i64 a] w fun y w'=>y=.returned (.tuple #[.int .i64 0,aI c])∧dG w w' f D g b N:=by
 have hs:∀w',Below w.heap.size w w'→dG w w' f D g b N:=fun w' hb=>h.same t hb
 rw [ax hc]
 clear h t hc
 go_enter Tryz.func187,Tryz.ntmps187
 go_wp2_with (go_at_call 253;refine hU.mono ?_;rintro y w1 ⟨rfl,b1⟩)
 go_ret2
 exact ⟨rfl,hs _ b1⟩
theorem QF.Nz (h:QF w f D g n) (t:dM w b g M N) {i:Nat}(hi:i<8) (aG:i<N.length) (h0:0<N[i].1) (he:D.E N[i].1=some e) (s:List UInt8) (a:Int) (hk:e.kind≠1) (hpr:e.af=2∨e.af=3) {p:Pi}(hp:D.P e.pipe=some p) :
 Calls Tryz.prog 187 #[wp f,wp b,.int .i64 (i:Int),tx s,.int .i64 a] w fun y w'=>y=.returned (.tuple #[.int .i64 (Nf p.2.1 p.1 s:Int),aI (Lf p.2.1 p.1 s)])∧dG w w' f { D with P:=fun j=>if j=e.pipe then some (I6 p.2.1 p.1 s,p.2.1,p.2.2) else D.P j } g b N:=by
 have hU:=h.mo t hi aG h0 he 2 (.inr ⟨rfl,hpr⟩)
 have hk':(e.kind == 1)=false:=by simpa using hk
 have hpv:pv g e=wp (g.Q e.pipe):=if_neg hk
 have hat:∀V,Below w.heap.size w V→V.cell? ⟨g.B N[i].1,5,none⟩=some (wp (g.Q e.pipe))∧Calls Tryz.prog 254 #[wp (g.B N[i].1)] V (fun x w'=>x=.returned (.bool false)∧w'=V)∧Calls Tryz.prog 272 #[wp (g.Q e.pipe),tx s] V fun y w'=>y=.returned (.tuple #[.int .i64 (Nf p.2.1 p.1 s:Int),aI (Lf p.2.1 p.1 s)])∧dG w w' f { D with P:=fun j=>if j=e.pipe then some (I6 p.2.1 p.1 s,p.2.1,p.2.2) else D.P j } g b N:=fun V hV=>by
  have hV':=h.below hV
  obtain ⟨c,h1,_⟩:=hV'.gF _ e he
  have e5:=(hV'.lU he h1).2.2.2.2.2.1
  rw [hpv] at e5
  have hIs:=hV'.oQ he
  rw [hk'] at hIs
  obtain ⟨tb,tk⟩:=hV'.pipe _ p hp
  refine ⟨e5,hIs,(tb.zk s).mono ?_⟩
  rintro y w' ⟨rfl,Zt,hg⟩
  exact ⟨rfl,⟨⟨g,n,M,hV'.piped hp (x':=(I6 p.2.1 p.1 s,p.2.1,p.2.2)) Zt hg,(t.below hV).sJ (by rw [tk];rfl) hg,Ext.refl _ _ _⟩,(Wt.below _ hV).trans (Wt.grown hg (.inl (by rw [tk];rfl)))⟩⟩
 generalize ({ D with P:=fun j=>if j=e.pipe then some (I6 p.2.1 p.1 s,p.2.1,p.2.2) else D.P j }:DS)=D2 at *
 generalize g.B N[i].1=q at *
 generalize g.Q e.pipe=Q at *
 generalize aI (Lf p.2.1 p.1 s)=U at *
 generalize Nf p.2.1 p.1 s=S at *
 clear h t hk hpr hp he h0 hk' hpv
 go_enter Tryz.func187,Tryz.ntmps187
 go_wp2_with (first
  |(go_at_call 253;refine hU.mono ?_;rintro y w1 ⟨rfl,b1⟩;obtain ⟨c5,hIs,hRd⟩:=hat _ b1)
  |(go_at_call 254;refine hIs.mono ?_;rintro y w2 ⟨rfl,hw2⟩;subst w2)
  |(go_at_call 272;refine hRd.mono ?_;rintro y w3 ⟨rfl,hG⟩))
 go_ret2
 exact ⟨rfl,hG⟩
theorem QF.filed (h:QF w f D g n) (he:D.E d=some e) (hk:e.kind=1) (V:World) (hV:Below w.heap.size w V):Calls Tryz.prog 254 #[wp (g.B d)] V fun x w'=>x=.returned (.bool true)∧w'=V:=by
 have:=(h.below hV).oQ he
 rw [hk] at this
 exact this
theorem QF.Hm (h:QF w f D g n) (t:dM w b g M N) {i:Nat}(hi:i<8) (aG:i<N.length) (h0:0<N[i].1) (he:D.E N[i].1=some e) (s:List UInt8) (a:Int) (hk:e.kind=1) (hpr:e.af=2∨e.af=3) (hps:0≤e.pos∧e.pos≤200) (hl:s.length<100000) (hlim:o5 s a e.pos) :
 Calls Tryz.prog 187 #[wp f,wp b,.int .i64 (i:Int),tx s,.int .i64 a] w fun y w'=>y=.returned (.tuple #[.int .i64 0,eQ 4])∧dG w w' f D g b N:=by
 have hU:=h.mo t hi aG h0 he 2 (.inr ⟨rfl,hpr⟩)
 have hIs:=fun V hV=>h.filed he hk V hV
 have hat:∀V,Below w.heap.size w V→V.cell? ⟨g.B N[i].1,4,none⟩=some (.int .i64 e.pos):=fun V hV=>by
  have hV':=h.below hV
  obtain ⟨c,h1,_⟩:=hV'.gF _ e he
  exact (hV'.lU he h1).2.2.2.2.1
 have hs:∀w',Below w.heap.size w w'→dG w w' f D g b N:=fun w' hb=>h.same t hb
 obtain ⟨hs0,hs1⟩:=hlim
 have hlt:a<e.pos+(s.length:Int):=by omega
 have hw1:wrap64 (e.pos+(s.length:Int))=e.pos+(s.length:Int):=by unfold wrap64;omega
 have hne:(s == [])=false:=by simpa using hs0
 generalize g.B N[i].1=q at *
 generalize e.pos=ps at *
 clear h t hk hpr he h0 hl hps hs0 hs1
 go_enter Tryz.func187,Tryz.ntmps187
 go_wp2_with (first
  |(go_at_call 253;refine hU.mono ?_;rintro y w1 ⟨rfl,b1⟩;have c4:=hat _ b1)
  |(go_at_call 254;refine (hIs _ b1).mono ?_;rintro y w2 ⟨rfl,hw2⟩;subst w2))
 go_ret2
 exact ⟨rfl,hs _ b1⟩
theorem QF.JL (h:QF w f D g n) (t:dM w b g M N) {i:Nat}(hi:i<8) (aG:i<N.length) (h0:0<N[i].1) (he:D.E N[i].1=some e) (s:List UInt8) (a:Int) (hk:e.kind=1) (hpr:e.af=2∨e.af=3) (hnd:0≤e.node∧e.node<1000) (hps:0≤e.pos∧e.pos≤200) (hl:s.length<100000) (hT:bu D.T) (hlim:¬o5 s a e.pos) :
 Calls Tryz.prog 187 #[wp f,wp b,.int .i64 (i:Int),tx s,.int .i64 a] w fun y w'=>(cZ D.T e.node e.pos s≠0∧y=.returned (.tuple #[.int .i64 0,eQ (cZ D.T e.node e.pos s)])∧dG w w' f D g b N)∨(cZ D.T e.node e.pos s=0∧y=.returned (.tuple #[.int .i64 (s.length:Int),.nilIface])∧dG w w' f { D with T:=gp D.T e.node e.pos s,E:=fun j=>if j=N[i].1 then some { e with pos:=e.pos+s.length } else D.E j } g b N):=by
 have hU:=h.mo t hi aG h0 he 2 (.inr ⟨rfl,hpr⟩)
 have hIs:=fun V hV=>h.filed he hk V hV
 have hat:∀V,Below w.heap.size w V→(V.cell? ⟨f,0,none⟩=some (wp g.r)∧V.cell? ⟨g.B N[i].1,3,none⟩=some (.int .i64 e.node)∧V.cell? ⟨g.B N[i].1,4,none⟩=some (.int .i64 e.pos)):=fun V hV=>by
  have hV':=h.below hV
  obtain ⟨c,h1,_⟩:=hV'.gF _ e he
  obtain ⟨_,_,_,e3,e4,_,ez⟩:=hV'.lU he h1
  exact ⟨hV'.cells.1,e3,e4⟩
 have hWr:∀V,Below w.heap.size w V→Calls Tryz.prog 273 #[wp g.r,.int .i64 e.node,.int .i64 e.pos,tx s] V fun y w'=>y=.returned (aI (cZ D.T e.node e.pos s))∧(w'.cell? ⟨f,0,none⟩=some (wp g.r)∧w'.cell? ⟨g.B N[i].1,3,none⟩=some (.int .i64 e.node)∧w'.cell? ⟨g.B N[i].1,4,none⟩=some (.int .i64 e.pos))∧w'.frozen? ⟨g.B N[i].1,4,none⟩=false∧(cZ D.T e.node e.pos s≠0→dG w w' f D g b N)∧dG w (w'.setCell ⟨g.B N[i].1,4,none⟩ (.int .i64 (e.pos+s.length))) f { D with T:=gp D.T e.node e.pos s,E:=fun j=>if j=N[i].1 then some { e with pos:=e.pos+s.length } else D.E j } g b N:=fun V hV=>by
  have hV':=h.below hV
  obtain ⟨O,p,hO⟩:=hV'.tree
  refine (p.zk hT e.node e.pos s (gU hnd.1 (by omega)) hl).mono ?_
  rintro y w' ⟨rfl,O',p',st⟩
  have hq:=hV'.DJ (t.below hV) hO p' st
  obtain ⟨c,h1,_,hkb⟩:=hV'.gF _ e he
  have hbk:w'.heap[g.B N[i].1]? = V.heap[g.B N[i].1]? := st.wt.block _ (hV'.lt _ (by rw [hkb];rfl)) (fun o=>oZ hkb (hO _ o) (by simp) rfl)
  have hcell:∀o,w'.cell? ⟨g.B N[i].1,o,none⟩=V.cell? ⟨g.B N[i].1,o,none⟩:=fun o=>World.cell?_of_block (w:=V) (a:=⟨g.B N[i].1,o,none⟩) hbk
  obtain ⟨_,_,_,e3,e4,_,ez⟩:=hV'.lU he h1
  refine ⟨rfl,⟨hq.cell0,by rw [hcell];exact e3,by rw [hcell];exact e4⟩,by rw [World.frozen?_of_block (w:=V) (a:=⟨g.B N[i].1,4,none⟩) hbk];exact ez 4,fun hE=>?_,?_⟩
  ·have hN:gp D.T e.node e.pos s=D.T:=by unfold gp;rw [if_pos (.inl hE)]
   have:=(hq.upon hV).go
   rw [hN] at this
   exact this
  ·obtain ⟨⟨g1,a1,a2,a3,a4,a5,a6⟩,wt⟩:=hq.upon hV
   have he1:({ D with T:=gp D.T e.node e.pos s }:DS).E N[i].1=some e:=he
   obtain ⟨c1,b1,b2,b3⟩:=a1.gF _ e he1
   have hB1:g1.B N[i].1=g.B N[i].1:=by rw [a6]
   have h2:=a1.place he1 (e.pos+s.length)
   rw [hB1] at h2 b3
   have gg:=aV w' (g.B N[i].1) 4 (.int .i64 (e.pos+s.length))
   refine dG.after a3 a4 a5 wt ⟨⟨g1,n,M,h2,a2.sJ (by rw [b3];rfl) gg,Ext.refl _ _ _⟩,Wt.grown gg (.inl (by rw [b3];rfl))⟩
 generalize ({ D with T:=gp D.T e.node e.pos s,E:=fun j=>if j=N[i].1 then some { e with pos:=e.pos+s.length } else D.E j }:DS)=D2 at *
 generalize cZ D.T e.node e.pos s=C9 at *
 generalize g.B N[i].1=q at *
 generalize e.node=nd at *
 generalize afB:e.pos=ps at *
 have HW:Aside (wrap64 (ps+(s.length:Int))=ps+(s.length:Int)):=by show wrap64 _=_;unfold wrap64;omega
 have hcond:s=[]∨(s≠[]∧¬a<ps+(s.length:Int)):=by
  by_cases e1:s=[]
  ·exact .inl e1
  ·refine .inr ⟨e1,fun h9=>hlim ⟨e1,by omega⟩⟩
 clear h t hk hpr he h0 hl hps hnd hT hlim afB
 have HC:Aside (s=[]∨(s≠[]∧¬a<ps+(s.length:Int))):=hcond
 clear hcond
 go_enter Tryz.func187,Tryz.ntmps187
 go_upto_region 6 with (first
  |(go_at_call 253;refine hU.mono ?_;rintro y w1 ⟨rfl,b1⟩)
  |(go_at_call 254;refine (hIs _ b1).mono ?_;rintro y w2 ⟨rfl,hw2⟩;subst w2))
 have hc1:=hat _ b1
 obtain ⟨c0,c3,c4⟩:=hat _ b1
 clear hU hIs hat
 rcases HC.out with rfl|⟨hs0,hs1⟩
 ·clear HC
  go_upto_region 8 with fail
  go_region_held3 (fun w'=>w'.cell? ⟨f,0,none⟩=some (wp g.r)∧w'.cell? ⟨q,3,none⟩=some (.int .i64 nd)∧w'.cell? ⟨q,4,none⟩=some (.int .i64 ps)) (first|exact hc1|exact hc3) (first
   |(go_at_call 273;refine (hWr _ (zS b1)).mono ?_;rintro y w3 ⟨rfl,hc3,hz3,hB,hG⟩;have HB:Aside _:=hB;clear hB))
  all_goals
   obtain ⟨_,_,k4⟩:=hc3
   have HW9:wrap64 ps=ps:=by simpa using HW.out
   clear hc1 c0 c3 c4 hWr HW
   by_cases hz:C9=0
   ·subst hz
    clear HB
    rw [show aI 0=.nilIface from rfl]
    go_wp2_with fail
    go_ret2
    exact ⟨rfl,by simpa using hG⟩
   ·have hG2:=HB.out hz
    rw [ax hz]
    have HN:Aside (C9≠0):=hz
    clear hz HB hG
    go_wp2_with fail
    go_ret2
    exact .inl ⟨HN.out,rfl,hG2⟩
 ·have hne:(s == [])=false:=by simpa using hs0
  have HW9:=HW.out
  clear HC hs0
  go_upto_region 8 with fail
  go_region_held3 (fun w'=>w'.cell? ⟨f,0,none⟩=some (wp g.r)∧w'.cell? ⟨q,3,none⟩=some (.int .i64 nd)∧w'.cell? ⟨q,4,none⟩=some (.int .i64 ps)) (first|exact hc1|exact hc3) (first
   |(go_at_call 273;refine (hWr _ (zS b1)).mono ?_;rintro y w3 ⟨rfl,hc3,hz3,hB,hG⟩;have HB:Aside _:=hB;clear hB))
  all_goals
   obtain ⟨_,_,k4⟩:=hc3
   clear hc1 c0 c3 c4 hWr HW
   by_cases hz:C9=0
   ·subst hz
    clear HB
    rw [show aI 0=.nilIface from rfl]
    go_wp2_with fail
    go_ret2
    exact ⟨rfl,hG⟩
   ·have hG2:=HB.out hz
    rw [ax hz]
    have HN:Aside (C9≠0):=hz
    clear hz HB hG
    go_wp2_with fail
    go_ret2
    exact .inl ⟨HN.out,rfl,hG2⟩
end
theorem Stp.cO {w w':World}{A A':Nat→Prop}(st:Stp w w' A A') {b o:Nat}{v:Value}(h:w.cell? ⟨b,o,none⟩=some v) (hA:¬A b):w'.cell? ⟨b,o,none⟩=some v∧¬A' b:=by
 have hlt:b<w.heap.size:=World.block_lt_of_cell? w _ h
 obtain ⟨h1,h2⟩:=st.apart (P:=fun i=>i=b) (fun i e=>by subst e;exact ⟨hA,hlt⟩) b rfl
 exact ⟨by rw [World.cell?_of_block (w:=w) (a:=⟨b,o,none⟩) (st.keep (P:=fun i=>i=b) (fun i e=>by subst e;exact ⟨hA,hlt⟩) b rfl)];exact h,h1⟩
structure KD (w:World) (m:Int) (f r:Nat) (D:DS) (bs:List Nat) (Ts:List Ns) (k:Nat) (A:Nat→Prop):Prop where
 st:∃g n,QF w f D g n∧g.r=r∧(∀j (h:j<bs.length) (h':j<Ts.length),∃M,dM w bs[j] g M Ts[j])∧∀i,(g.dC i).isSome=true→A i
 len:bs.length=Ts.length
 nd:bs.Nodup
 Vk:∀b∈bs,A b
 inv:Inv D Ts k
 lt:∀i,A i→i<w.heap.size
 ml:w.cell? ⟨4,0,none⟩=some (.int .i64 m)
 mn:¬A 4
 er:w.cell? ⟨0,0,none⟩=some iB
 en:¬A 0
section
variable {w w' w2 w0 w1:World}{f r b n k k' j:Nat}{D D':DS}{g g':QG}{bs:List Nat}{Ts:List Ns}{M N N':Ns}{d m:Int}{A:Nat→Prop}
theorem QF.yF (h:QF w f D g n):p9 D.E n:=by
 obtain ⟨Dt,_,_,h1,h2,h3⟩:=h.map.data
 have h3':∀x,x∈Go.intKeys Dt↔(g.K x).isSome=true:=fun x=>by rw [h3 x,Option.isSome_map]
 refine ⟨(Go.intKeys Dt).map (fun k=>(g.K k).getD 0),?_,by rw [List.length_map,h2],fun x=>?_⟩
 ·refine List.pairwise_map.2 (h1.imp_of_mem (fun {a b} ha hb hne e=>hne ?_))
  obtain ⟨x,hx⟩:=Option.isSome_iff_exists.1 ((h3' a).1 ha)
  obtain ⟨y,hy⟩:=Option.isSome_iff_exists.1 ((h3' b).1 hb)
  rw [hx,hy] at e
  have e':x=y:=e
  rw [←e'] at hy
  exact h.inj a b x hx hy
 ·constructor
  ·intro hx
   obtain ⟨a,ha,rfl⟩:=List.mem_map.1 hx
   obtain ⟨y,hy⟩:=Option.isSome_iff_exists.1 ((h3' a).1 ha)
   rw [hy]
   exact (h.key a y hy).1
  ·intro hx
   obtain ⟨a,ha⟩:=h.has x hx
   exact List.mem_map.2 ⟨a,(h3' a).2 (by rw [ha];rfl),by rw [ha];rfl⟩
theorem QF.few (h:QF w f D g n) (hg:Given D):n<10000:=by
 have:=h.yF.few hg.n0 hg.e
 have:=hg.n1
 omega
theorem KD.call (h:KD w m f r D bs Ts k A) (hj:j<bs.length) {fn:FuncId}{args:Array Value}{Q:Ending→DS→Ns→Prop}
 (hc:∀g n M (h':j<Ts.length),QF w f D g n→dM w bs[j] g M Ts[j]→g.r=r→Calls Tryz.prog fn args w fun y w'=>∃D' N',Q y D' N'∧dG w w' f D' g bs[j] N') (hI:∀y D' N',Q y D' N'→Inv D' (Ts.set j N') k') :
 Calls Tryz.prog fn args w fun y w'=>∃D' N' A',Q y D' N'∧KD w' m f r D' bs (Ts.set j N') k' A'∧Stp w w' A A':=by
 obtain ⟨g,n,h1,hr,ht,hA⟩:=h.st
 have hj':j<Ts.length:=by rw [←h.len];exact hj
 obtain ⟨M,tj⟩:=ht j hj hj'
 refine (hc g n M hj' h1 tj hr).mono ?_
 rintro y w' ⟨D',N',hQ,⟨⟨g',n',M',a1,a2,a3⟩,wt⟩⟩
 have I':=hI y D' N' hQ
 have hst:Stp w w' A (fun i=>A i∨(w.heap.size≤i∧i<w'.heap.size)):=⟨wt.mono (fun i hi=>by
  rcases hi with hi|rfl
  ·exact hA i hi
  ·exact h.Vk _ (List.getElem_mem hj)),fun i hi=>by
  rcases hi with hi|hi
  ·exact .inl hi
  ·exact .inr hi.1⟩
 refine ⟨D',N',_,hQ,⟨⟨g',n',a1,a3.r.trans hr,fun x hx hx'=>?_,fun i hi=>?_⟩,by rw [List.length_set];exact h.len,h.nd,fun b hb=>.inl (h.Vk b hb),I',fun i hi=>?_,(hst.cO h.ml h.mn).1,(hst.cO h.ml h.mn).2,(hst.cO h.er h.en).1,(hst.cO h.er h.en).2⟩,hst⟩
 ·by_cases e1:x=j
  ·subst e1
   rw [List.getElem_set_self]
   exact ⟨M',a2⟩
  ·rw [List.length_set] at hx'
   obtain ⟨Mx,tx⟩:=ht x hx hx'
   rw [List.getElem_set_ne (Ne.symm e1)]
   have hxs:x<(Ts.set j N').length:=by rw [List.length_set];exact hx'
   have hl:=I'.live hxs
   rw [List.getElem_set_ne (Ne.symm e1)] at hl
   refine ⟨Mx,tx.other a3 (wt.block _ tx.tab.lt ?_) hl⟩
   rintro (z|z)
   ·rw [tx.off] at z;cases z
   ·exact e1 ((List.getElem_inj h.nd).1 z)
 ·by_cases e1:i<w.heap.size
  ·rw [a3.dC i e1] at hi
   exact .inl (hA i hi)
  ·exact .inr ⟨by omega,a1.lt i hi⟩
 ·rcases hi with hi|hi
  ·exact Nat.lt_of_lt_of_le (h.lt i hi) wt.size
  ·exact hi.2
theorem KD.below (h:KD w m f r D bs Ts k A) (hb:Below w.heap.size w w'):KD w' m f r D bs Ts k A:=by
 obtain ⟨g,n,h1,hr,ht,hA⟩:=h.st
 have hst:Stp w w' A A:=.below hb
 exact ⟨⟨g,n,h1.below hb,hr,fun j hj hj'=>by
  obtain ⟨M,t⟩:=ht j hj hj'
  exact ⟨M,t.below hb⟩,hA⟩,h.len,h.nd,h.Vk,h.inv,fun i hi=>Nat.lt_of_lt_of_le (h.lt i hi) hb.size,(hst.cO h.ml h.mn).1,h.mn,(hst.cO h.er h.en).1,h.en⟩
theorem KD.keep (h:KD w m f r D bs Ts k A) (hk:∀i,A i→w'.heap[i]? = w.heap[i]?) (hs:w.heap.size≤w'.heap.size) (hm:w'.cell? ⟨4,0,none⟩=some (.int .i64 m)) (he:w'.cell? ⟨0,0,none⟩=some iB):KD w' m f r D bs Ts k A:=by
 obtain ⟨g,n,h1,hr,ht,hA⟩:=h.st
 exact ⟨⟨g,n,h1.keep (fun i hi=>hk i (hA i hi)) hs,hr,fun j hj hj'=>by
  obtain ⟨M,t⟩:=ht j hj hj'
  exact ⟨M,t.keep (hk _ (h.Vk _ (List.getElem_mem hj)))⟩,hA⟩,h.len,h.nd,h.Vk,h.inv,fun i hi=>Nat.lt_of_lt_of_le (h.lt i hi) hs,hm,h.mn,he,h.en⟩
theorem KD.jT (h:KD w m f r D bs Ts k A) (hj:j<bs.length):j<Ts.length:=by rw [←h.len];exact hj
theorem KD.yF (h:KD w m f r D bs Ts k A):∃n,p9 D.E n:=by
 obtain ⟨g,n,h1,_⟩:=h.st
 exact ⟨n,h1.yF⟩
theorem KD.gQ (h:KD w m f r D bs Ts k A):∃s,dF D.T s:=by
 obtain ⟨g,n,h1,_⟩:=h.st
 obtain ⟨O,p,_⟩:=h1.tree
 exact p.num
theorem KD.aas (h:KD w m f r D bs Ts k A) {n:Nat}(hn:p9 D.E n):Calls Tryz.prog 141 #[wp f] w fun y w'=>y=.returned (.int .i64 (n:Int))∧w'=w:=by
 obtain ⟨g,n',h1,_⟩:=h.st
 rw [hn.one h1.yF]
 exact h1.rf
theorem KD.used (h:KD w m f r D bs Ts k A) (hj:j<bs.length):Calls Tryz.prog 145 #[wp bs[j]] w fun y w'=>y=.returned (.int .i64 (ak (Ts[j]'(h.jT hj)):Int))∧Below w.heap.size w w':=by
 obtain ⟨g,n',h1,_,ht,_⟩:=h.st
 obtain ⟨M,t⟩:=ht j hj (h.jT hj)
 exact t.xZ h1
theorem KD.has (h:KD w m f r D bs Ts k A) (hj:j<bs.length) (x:Int):Calls Tryz.prog 153 #[wp f,wp bs[j],.int .i64 x] w fun y w'=>y=.returned (.bool (aJ (Ts[j]'(h.jT hj)) x))∧Below w.heap.size w w':=by
 obtain ⟨g,n',h1,_,ht,_⟩:=h.st
 obtain ⟨M,t⟩:=ht j hj (h.jT hj)
 exact t.JA h1 x
theorem KD.nodes (h:KD w m f r D bs Ts k A) {s:Nat}(hs:dF D.T s):Calls Tryz.prog 142 #[wp r] w fun y w'=>y=.returned (.int .i64 (s:Int))∧w'=w:=by
 obtain ⟨g,n',h1,hr,_⟩:=h.st
 obtain ⟨O,p,_⟩:=h1.tree
 rw [←hr]
 exact p.oC hs
theorem KD.file (h:KD w m f r D bs Ts k A) (hk:k≤890) (hn:D.nx<4999) (hj:j<bs.length) {n s:Nat}(hN:p9 D.E n) (hs:dF D.T s) (p:List UInt8) (hp:p.length<100000) (pr:Int) (mk:Bool) :
 Calls Tryz.prog 175 #[wp f,wp bs[j],tx p,.int .i64 pr,.bool mk] w fun y w'=>∃D' N' A',(∃x c,y=.returned (.tuple #[.int .i64 x,aI c])∧iN D (Ts[j]'(h.jT hj)) n s p pr mk x c D' N')∧KD w' m f r D' bs (Ts.set j N') (k+2) A'∧Stp w w' A A':=by
 refine h.call hj (Q:=fun y D' N'=>∃x c,y=.returned (.tuple #[.int .i64 x,aI c])∧iN D (Ts[j]'(h.jT hj)) n s p pr mk x c D' N') (fun g n9 M hj' q t _=>?_) (fun y D' N' hq=>?_)
 ·obtain rfl:=hN.one q.yF
  refine (q.nD t ⟨h.inv.core.lv,hs,h.inv.core.sm.more (by omega),h.inv.core.jW,h.inv.live hj',q.few h.inv.core.jW⟩ p hp pr mk h.ml h.er).mono ?_
  rintro y w' ⟨x,c,D',N',rfl,hF,hG⟩
  exact ⟨D',N',⟨x,c,rfl,hF⟩,hG⟩
 ·obtain ⟨x,c,_,hF⟩:=hq
  exact h.inv.file hk hn (h.jT hj) hs hF
theorem KD.dup (h:KD w m f r D bs Ts k A) (hj:j<bs.length) (x:Int) :
 Calls Tryz.prog 152 #[wp f,wp bs[j],.int .i64 x] w fun y w'=>∃D' N' A',(y=.returned (.tuple #[.int .i64 (jv (Ts[j]'(h.jT hj)) x),aI (jH (Ts[j]'(h.jT hj)) x)])∧D'=lM D (Ts[j]'(h.jT hj)) x∧N'=lL (Ts[j]'(h.jT hj)) x)∧KD w' m f r D' bs (Ts.set j N') k A'∧Stp w w' A A':=by
 refine h.call hj (Q:=fun y D' N'=>y=.returned (.tuple #[.int .i64 (jv (Ts[j]'(h.jT hj)) x),aI (jH (Ts[j]'(h.jT hj)) x)])∧D'=lM D (Ts[j]'(h.jT hj)) x∧N'=lL (Ts[j]'(h.jT hj)) x) (fun g n9 M hj' q t _=>?_) (fun y D' N' hq=>?_)
 ·refine (q.abd t x (h.inv.LD hj')).mono ?_
  rintro y w' ⟨rfl,hG⟩
  exact ⟨_,_,⟨rfl,rfl,rfl⟩,hG⟩
 ·obtain ⟨_,rfl,rfl⟩:=hq
  exact h.inv.afU (h.jT hj) x
theorem KD.ZL (h:KD w m f r D bs Ts k A) (hj:j<bs.length) (x a:Int) :
 Calls Tryz.prog 181 #[wp f,wp bs[j],.int .i64 x,.int .i64 a] w fun y w'=>∃D' N' A',(y=.returned (aI (kg D (Ts[j]'(h.jT hj)) x a))∧D'=kr D (Ts[j]'(h.jT hj)) x a∧N'=Ts[j]'(h.jT hj))∧KD w' m f r D' bs (Ts.set j N') k A'∧Stp w w' A A':=by
 refine h.call hj (Q:=fun y D' N'=>y=.returned (aI (kg D (Ts[j]'(h.jT hj)) x a))∧D'=kr D (Ts[j]'(h.jT hj)) x a∧N'=Ts[j]'(h.jT hj)) (fun g n9 M hj' q t _=>?_) (fun y D' N' hq=>?_)
 ·refine (q.Ws t x a (h.inv.live hj')).mono ?_
  rintro y w' ⟨rfl,hG⟩
  exact ⟨_,_,⟨rfl,rfl,rfl⟩,hG⟩
 ·obtain ⟨_,rfl,rfl⟩:=hq
  exact (h.inv.ZL (h.jT hj) x a).lu (h.jT hj)
theorem KD.mark (h:KD w m f r D bs Ts k A) (hj:j<bs.length) (x:Int) (c:Bool) :
 Calls Tryz.prog 172 #[wp f,wp bs[j],.int .i64 x,.bool c] w fun y w'=>∃D' N' A',(y=.returned (aI (if aJ (Ts[j]'(h.jT hj)) x=true then 0 else 7))∧D'=D∧N'=kR (Ts[j]'(h.jT hj)) x c)∧KD w' m f r D' bs (Ts.set j N') k A'∧Stp w w' A A':=by
 refine h.call hj (Q:=fun y D' N'=>y=.returned (aI (if aJ (Ts[j]'(h.jT hj)) x=true then 0 else 7))∧D'=D∧N'=kR (Ts[j]'(h.jT hj)) x c) (fun g n9 M hj' q t _=>?_) (fun y D' N' hq=>?_)
 ·refine (q.Xr t x c).mono ?_
  rintro y w' ⟨rfl,hG⟩
  exact ⟨_,_,⟨rfl,rfl,rfl⟩,hG⟩
 ·obtain ⟨_,rfl,rfl⟩:=hq
  exact h.inv.mark (h.jT hj) x c
end
section
variable {D:DS}
theorem zB (D:DS) (d:Int):(aT D d).nx=D.nx:=by
 unfold aT
 split
 ·split
  ·rfl
  ·split<;>rfl
 ·rfl
theorem yl (all:Bool) (D:DS) (N:Ns):∀i,(ah all D N i).1.nx=D.nx
 |0=>rfl
 |i+1=>by
  rw [ah]
  split
  ·simp only;rw [zB];exact yl all D N i
  ·exact yl all D N i
theorem Xe {N:Ns}{n s:Nat}{p:List UInt8}{pr:Int}{mk:Bool}{x c:Int}{D':DS}{N':Ns}(h:iN D N n s p pr mk x c D' N'):D'.nx≤D.nx+3:=by
 cases h<;>(try simp only [jL])<;>omega
theorem Xc {N:Ns}{n:Nat}{x y c:Int}{D':DS}{N':Ns}(h:rX D N n x y c D' N'):D'.nx≤D.nx+3:=by
 rcases h with ⟨_,_,_,_,rfl,_⟩|⟨_,_,_,_,rfl,_⟩
 ·omega
 ·simp only [xg,qA,lV,jL];omega
theorem aaI (D:DS) (N:Ns) (x:Int):(lM D N x).nx=D.nx:=by unfold lM;split<;>rfl
theorem Xf (D:DS) (N:Ns) (x y:Int):(fV D N x y).nx=D.nx:=by
 unfold fV
 split
 ·split
  ·rfl
  ·rw [zB];rfl
 ·rfl
theorem OV (D:DS) (N:Ns) (x:Int):(iU D N x).nx=D.nx:=by
 unfold iU
 split
 ·rw [zB]
 ·rfl
theorem Xa (D:DS) (N:Ns) (x a:Int):(kr D N x a).nx=D.nx:=by
 unfold kr
 split
 ·split<;>rfl
 ·rfl
theorem Xb (D:DS) (N:Ns) (x a:Int):(bR D N x a).2.2.nx=D.nx:=by
 unfold bR
 split
 ·split
  ·rfl
  ·split
   ·rfl
   ·split
    ·rfl
    ·split<;>rfl
 ·rfl
theorem TN (D:DS) (N:Ns) (x:Int) (s:List UInt8) (a:Int):(bZ D N x s a).2.2.nx=D.nx:=by
 unfold bZ
 split
 ·split
  ·rfl
  ·split
   ·rfl
   ·split
    ·split
     ·rfl
     ·split<;>rfl
    ·split<;>rfl
 ·rfl
end
section
variable {D:DS}{Ts:List Ns}{k j i:Nat}{d:Int}{e:En}
theorem JQ {N:Ns}(h:∀x∈N,¬0<x.1):ak N=0:=by
 unfold ak
 rw [List.length_eq_zero_iff,List.filter_eq_nil_iff]
 intro x hx
 simp only [decide_eq_true_eq]
 exact h x hx
theorem wP (D:DS) (N:Ns):∀i y,y<i→∀z,(ah true D N i).2[y]? = some z→¬0<z.1
 |0,y,hy,_,_=>by omega
 |i+1,y,hy,z,hz=>by
  rw [ah] at hz
  have hN:=(iF true D N i).2 i (Nat.le_refl _)
  split at hz
  ·simp only at hz
   by_cases e:i=y
   ·subst e
    rw [List.getElem?_set_self'] at hz
    cases h9:(ah true D N i).2[i]? with
    |none=>rw [h9] at hz;cases hz
    |some q=>rw [h9] at hz;cases hz;simp
   ·rw [List.getElem?_set_ne e] at hz
    exact wP D N i y (by omega) z hz
  ·rename_i hc
   by_cases e:y=i
   ·subst e
    rw [hN] at hz
    intro h0
    apply hc
    rw [List.getD_eq_getElem?_getD,hz]
    exact ⟨h0,.inl rfl⟩
   ·exact wP D N i y (by omega) z hz
theorem PK (D:DS) {N:Ns}(h8:N.length=8):ak (ah true D N 8).2=0:=JQ (fun x hx=>by
 obtain ⟨y,hy,rfl⟩:=List.getElem_of_mem hx
 exact wP D N 8 y (by rw [(iF true D N 8).1,h8] at hy;exact hy) _ (List.getElem?_eq_getElem hy))
end
end Go.Proofs.YtippochapiolpaaGreatDoor

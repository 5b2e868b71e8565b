/- A pool: where it lies; the best of its blocks that serve. -/
import Derived.Test.YtippochapiolpaaGreatDoorLefts
import Derived.Lib.SlKeysI
import Derived.Test.YtippochapiolpaaGreatDoorJAbs
import Derived.Test.YtippochapiolpaaGreatDoorNew
import Derived.BigQuiet
import Derived.Deep.RegionWith
import Derived.Shelf.SlMaps.Clone
set_option maxHeartbeats 8000000
set_option maxRecDepth 100000
namespace Go.Proofs.YtippochapiolpaaGreatDoor
open Go.RowKit Go.Shelf Go.Lib Go.Sort
theorem At.lt' {w:World}{b n:Nat}{U:Nat→Bool}{T:Int→Option Nat}{m:Nat}{A:Nat→Prop}(h:At w b n U T m A) {i:Nat}(hi:A i):i<w.heap.size:=by
 obtain ⟨g,O,V,F,s,p,c,pm,hs,inv,hn,hA⟩:=h
 rcases (hA i).1 hi with h|rfl
 ·exact p.Jr h
 ·exact pm.lt
theorem At.keep' {w w':World}{b n:Nat}{U:Nat→Bool}{T:Int→Option Nat}{m:Nat}{A:Nat→Prop}(h:At w b n U T m A) (hk:∀i,A i→w'.heap[i]? = w.heap[i]?):At w' b n U T m A:=by
 obtain ⟨g,O,V,F,s,p,c,pm,hs,inv,hn,hA⟩:=h
 exact ⟨g,O,V,F,s,p.keep (fun i hi=>hk i ((hA i).2 (.inl hi))),c,pm.keep (hk g ((hA g).2 (.inr rfl))),hs,inv,hn,hA⟩
theorem At.more' {w:World}{b n:Nat}{U:Nat→Bool}{T:Int→Option Nat}{m m':Nat}{A:Nat→Prop}(h:At w b n U T m A) (hm:m≤m'):At w b n U T m' A:=by
 obtain ⟨g,O,V,F,s,p,c,pm,hs,inv,hn,hA⟩:=h
 exact ⟨g,O,V,F,s,p,c,pm,Nat.le_trans hs hm,inv,hn,hA⟩
theorem GI (F:Nat→List Int) (o:Nat):∀d,(∃j,o≤j∧j≤o+d∧F j≠[])→∃j,o≤j∧j≤o+d∧F j≠[]∧∀i,o≤i→i<j→F i=[]
 |0,⟨j,h1,h2,h3⟩=>⟨j,h1,h2,h3,fun i a1 a2=>by omega⟩
 |d+1,⟨j,h1,h2,h3⟩=>by
  by_cases h:∃j,o≤j∧j≤o+d∧F j≠[]
  ·obtain ⟨i,a1,a2,a3,a4⟩:=GI F o d h
   exact ⟨i,a1,by omega,a3,a4⟩
  ·refine ⟨j,h1,h2,h3,fun i a1 a2=>?_⟩
   by_cases e:F i=[]
   ·exact e
   ·exact absurd ⟨i,a1,by omega,e⟩ h
theorem At.afZ {w:World}{b n:Nat}{U:Nat→Bool}{T:Int→Option Nat}{m:Nat}{A:Nat→Prop}(h:At w b n U T m A) (o:Nat) (hno:¬ ∀j r,ug U j r→j<o):∃k q,Z4 U o (q*2 ^ k) k∧T ((q*2 ^ k:Nat):Int)=none:=by
 obtain ⟨g,O,V,F,s,p,c,pm,hs,inv,hn,hA⟩:=h
 have hex:∃j,o≤j∧j≤o+6∧F j≠[]∧j≤6:=by
  refine Classical.byContradiction fun hc=>hno fun j r hx=>?_
  by_cases ho:o≤j
  ·exfalso
   have hj:=hx.1
   have hm:=((c j (by omega)).2 _).2 ⟨r,rfl,hx⟩
   exact hc ⟨j,ho,by omega,fun e=>(by rw [e] at hm;cases hm),hj⟩
  ·omega
 obtain ⟨j,h1,h2,h3,h6⟩:=hex
 obtain ⟨k,k1,k2,k3,k4⟩:=GI F o 6 ⟨j,h1,h2,h3⟩
 have Zy:k≤6:=by
  by_cases e:k≤j
  ·omega
  ·exact absurd (k4 j h1 (by omega)) h3
 obtain ⟨z,l,hl⟩:=List.exists_cons_of_ne_nil k3
 obtain ⟨q,_,hx,hB⟩:=zR c k1 Zy k4 hl
 refine ⟨k,q,hB,?_⟩
 cases hT:T ((q*2 ^ k:Nat):Int) with
 |none=>rfl
 |some k'=>
  obtain ⟨_,r,hr,hf⟩:=inv.tk _ _ hT
  have e:q*2 ^ k=r*2 ^ k':=Int.ofNat.inj hr
  have a1:=hx.2.1 _ (bG k q)
  rw [e,(hf _ (bG k' r)).2] at a1;cases a1
end Go.Proofs.YtippochapiolpaaGreatDoor
namespace Go.Proofs.YtippochapiolpaaGreatDoor
open Go.RowKit Go.Shelf Go.Lib Go.Sort Go.Maps
theorem Hz {ss:List Int}(h:ss.Nodup):(ss.mergeSort (fun x y=>decide (x≤y))).Pairwise (· < ·):=by
 have tr:∀a b c:Int,decide (a≤b)=true→decide (b≤c)=true→decide (a≤c)=true:=fun a b c h1 h2=>by simp only [decide_eq_true_eq] at *;omega
 have tl:∀a b:Int,(decide (a≤b) || decide (b≤a))=true:=fun a b=>by simp only [Bool.or_eq_true,decide_eq_true_eq];omega
 have h1:=List.pairwise_mergeSort tr tl ss
 have h2:(ss.mergeSort (fun x y=>decide (x≤y))).Nodup:=(List.mergeSort_perm ss _).nodup_iff.2 h
 exact h1.imp₂ (fun {a b} h1 h2=>by simp only [decide_eq_true_eq] at h1;omega) h2
theorem aK.Gf {w:World}{g s n:Nat}{T:Int→Option Nat}(m:aK w g s (tm T)) (hw:Within T n):s=num T n:=by
 obtain ⟨D,_,_,hnd,hl,hk⟩:=m.data
 have hp:=Hz hnd
 have hK:Ks T ((Go.intKeys D).mergeSort (fun x y=>decide (x≤y))):=⟨hp,fun x=>by
  rw [(List.mergeSort_perm _ _).mem_iff,hk x];unfold tm;cases T x<;>simp⟩
 rw [←TP hK hw,(List.mergeSort_perm _ _).length_eq,hl]
theorem BInv.within {n:Nat}{U:Nat→Bool}{T:Int→Option Nat}(h:BInv n U T):Within T n:=fun x hx=>by
 cases e:T x with
 |none=>rw [e] at hx;cases hx
 |some k=>
  obtain ⟨_,q,hq,hf⟩:=h.tk x k e
  have:=(hf _ (bG k q)).1
  omega
section
variable {w:World}{b n:Nat}{U:Nat→Bool}{T:Int→Option Nat}{m:Nat}{A:Nat→Prop}
theorem At.inv (h:At w b n U T m A):BInv n U T:=by obtain ⟨g,O,V,F,s,p,c,pm,hs,inv,hn,hA⟩:=h;exact inv
theorem At.n256 (h:At w b n U T m A):n≤256:=by obtain ⟨g,O,V,F,s,p,c,pm,hs,inv,hn,hA⟩:=h;exact hn
theorem At.shrink (h:At w b n U T m A):At w b n U T 256 A:=by
 obtain ⟨g,O,V,F,s,p,c,pm,hs,inv,hn,hA⟩:=h
 refine ⟨g,O,V,F,s,p,c,pm,?_,inv,hn,hA⟩
 rw [pm.Gf inv.within]
 exact Nat.le_trans (vU _ _) hn
theorem give0 (h:At w b n U T m A) (f:Nat) (ht:T (f:Int)=some 0) :
 Calls Tryz.prog 330 #[pp b,.int .i64 (f:Int),.int .i64 0] w fun e w'=>e=.returned .nilIface∧∃U',FU w b n A w' U' (fun z=>if z=(f:Int) then none else T z) m:=by
 have h0:=Eu h f 0 (by simpa using ht)
 simp only [Nat.pow_zero,Nat.mul_one] at h0
 refine h0.mono ?_
 rintro e w' ⟨he,t⟩
 exact ⟨he,_,t⟩
theorem abG (h:At w b n U T m A) (hm:m<10000) :
 Calls Tryz.prog 314 #[pp b,.int .i64 0] w fun e w'=>(cnt U 0 n=0∧e=.returned (.tuple #[.int .i64 0,Lj 12])∧w'=w)∨
  ∃f:Nat,f<n∧T (f:Int)=none∧e=.returned (.tuple #[.int .i64 (f:Int),.nilIface])∧∃U',FU w b n A w' U' (fun z=>if z=(f:Int) then some 0 else T z) (m+1):=by
 by_cases hno:∀j r,ug U j r→j<0
 ·refine (Lc h 0 (by omega) hno).mono ?_
  rintro e w' ⟨he,hw⟩
  exact .inl ⟨PI h.inv.bound hno,he,hw⟩
 ·obtain ⟨k,q,hB,hT⟩:=h.afZ 0 hno
  refine (La h hm 0 (by omega) k q hB).mono ?_
  rintro e w' ⟨he,t⟩
  have hl:q*2 ^ k<n:=by
   obtain ⟨⟨q',hq',hx⟩,_,_⟩:=hB
   rw [hq'];exact h.inv.bound _ (hx.2.1 _ (bG _ _))
  exact .inr ⟨q*2 ^ k,hl,hT,he,_,t⟩
end
structure St where
 b:Nat
 bm:Nat
 sm:Nat
 bp:Nat
 g:Nat
 n:Nat
abbrev vp (b:Nat):Value:=.pointer (some ⟨b,0,none⟩)
structure Vs (E:St) (w:World) (D:Nat→Nat→Int) (R:Int→Option Nat) (A:Nat→Prop):Prop where
 head:w.heap[E.b]? = some (.cells #[mp E.bm,pp E.bp,.map (some E.g)] 99)
 mem:Mem w E.bm E.sm E.n D
 pool:∃U T,At w E.bp E.n U T 256 A∧ZZ R T
 map:aK w E.g (num R E.n) (tm R)
 small:∀x k,R x=some k→1≤k∧k≤1000
 Dw:¬A E.b
 FB:¬A E.bm
 Dv:¬A E.sm
 iO:¬A E.g
 Vr:E.b≠E.sm
 Nh:E.b≠E.g
 Vq:E.bm≠E.g
 Vh:E.sm≠E.g
 n1:1≤E.n
def bO (E:St) (A:Nat→Prop) (i:Nat):Prop:=A i∨i=E.sm∨i=E.g
def ou (E:St) (w:World) (A:Nat→Prop) (w':World) (D:Nat→Nat→Int) (R:Int→Option Nat):Prop:=
 ∃A',Vs E w' D R A'∧Fr (bO E A) w w'∧∀i,i<w.heap.size→A' i→A i
section
variable {E:St}{w w':World}{D:Nat→Nat→Int}{R:Int→Option Nat}{A:Nat→Prop}
theorem Vs.n256 (h:Vs E w D R A):E.n≤256:=by obtain ⟨U,T,a,_⟩:=h.pool;exact a.n256
theorem Vs.within (h:Vs E w D R A):Within R E.n:=by
 obtain ⟨U,T,a,s⟩:=h.pool
 intro x hx
 refine a.inv.within x ?_
 rw [s x];cases e:R x with
 |none=>rw [e] at hx;cases hx
 |some k=>rfl
theorem Vs.lt (h:Vs E w D R A) {i:Nat}(hi:A i):i<w.heap.size:=by obtain ⟨U,T,a,_⟩:=h.pool;exact a.lt' hi
theorem Vs.blt (h:Vs E w D R A):E.b<w.heap.size:=lt_of_heap h.head
theorem Vs.slt (h:Vs E w D R A):E.sm<w.heap.size:=h.mem.acx h.n1
theorem Vs.mlt (h:Vs E w D R A):E.bm<w.heap.size:=h.mem.acy
theorem Vs.uk (h:Vs E w D R A):E.g<w.heap.size:=h.map.lt
theorem Vs.Dm (h:Vs E w D R A) {i:Nat}(hi:bO E A i):i<w.heap.size:=by
 rcases hi with hi|rfl|rfl
 ·exact h.lt hi
 ·exact h.slt
 ·exact h.uk
theorem Vs.bno (h:Vs E w D R A):¬bO E A E.b:=by
 rintro (hi|e|e)
 ·exact h.Dw hi
 ·exact h.Vr e
 ·exact h.Nh e
theorem Vs.mno (h:Vs E w D R A):¬bO E A E.bm:=by
 rintro (hi|e|e)
 ·exact h.FB hi
 ·exact h.mem.ne e
 ·exact h.Vq e
theorem Vs.keep (h:Vs E w D R A) (hk:∀i,bO E A i→w'.heap[i]? = w.heap[i]?) (hb:w'.heap[E.b]? = w.heap[E.b]?) (hm:w'.heap[E.bm]? = w.heap[E.bm]?):Vs E w' D R A:=by
 obtain ⟨U,T,a,s⟩:=h.pool
 exact ⟨hb.trans h.head,h.mem.keep hm (hk _ (.inr (.inl rfl))),⟨U,T,a.keep' (fun i hi=>hk i (.inl hi)),s⟩,h.map.keep (hk _ (.inr (.inr rfl))),h.small,h.Dw,h.FB,h.Dv,h.iO,h.Vr,h.Nh,h.Vq,h.Vh,h.n1⟩
theorem Vs.below (h:Vs E w D R A) (hb:Below w.heap.size w w'):Vs E w' D R A:=
 h.keep (fun i hi=>hb.block i (h.Dm hi)) (hb.block _ h.blt) (hb.block _ h.mlt)
theorem Vs.c0 (h:Vs E w D R A):w.cell? ⟨E.b,0,none⟩=some (mp E.bm):=by rw [cell_of_row w E.b 0 _ _ _ h.head];rfl
theorem Vs.c1 (h:Vs E w D R A):w.cell? ⟨E.b,1,none⟩=some (pp E.bp):=by rw [cell_of_row w E.b 1 _ _ _ h.head];rfl
theorem Vs.c2 (h:Vs E w D R A):w.cell? ⟨E.b,2,none⟩=some (.map (some E.g)):=by rw [cell_of_row w E.b 2 _ _ _ h.head];rfl
theorem Vs.yP (h:Vs E w D R A) (x:Int):val R x≤1000:=by
 unfold val;cases e:R x with
 |none=>simp
 |some k=>exact (h.small x k e).2
theorem Vs.VX (h:Vs E w D R A) {x:Int}(hx:(R x).isSome=true):1≤val R x:=by
 unfold val;cases e:R x with
 |none=>rw [e] at hx;cases hx
 |some k=>exact (h.small x k e).1
theorem Vs.neg (h:Vs E w D R A) {x:Int}(hx:x<0):R x=none:=by
 cases e:R x with
 |none=>rfl
 |some k=>have:=h.within x (by rw [e];rfl);omega
theorem DK (R:Int→Option Nat) (x:Int):(tm R x).getD (.int .i64 0)=.int .i64 (val R x:Int):=by
 unfold tm val;cases R x<;>rfl
theorem wB (R:Int→Option Nat) (x:Int):(tm R x).isSome=(R x).isSome:=by unfold tm;cases R x<;>rfl
theorem Ea (R:Int→Option Nat) (x:Int) (k:Nat):(fun i=>if i=x then some (.int .i64 (k:Int)) else tm R i)=tm (jq R x k):=RD R x k
theorem ou.refl (h:Vs E w D R A):ou E w A w D R:=⟨A,h,Fr.refl _ _,fun _ _ h=>h⟩
theorem Vs.count (h:Vs E w D R A) {R':Int→Option Nat}(hg:w.grownBy w' (some E.g)) (pm:aK w' E.g (num R' E.n) (tm R')) (hsm:∀x k,R' x=some k→1≤k∧k≤1000) (hs:∀x,(R' x).isSome=(R x).isSome):ou E w A w' D R':=by
 obtain ⟨U,T,a,s⟩:=h.pool
 have hk:∀i,i<w.heap.size→i≠E.g→w'.heap[i]? = w.heap[i]? := fun i hi hn=>hg.block i hi (fun e=>hn (Option.some.inj e))
 refine ⟨A,⟨(hk _ h.blt h.Nh).trans h.head,h.mem.keep (hk _ h.mlt h.Vq) (hk _ h.slt h.Vh),⟨U,T,a.keep' (fun i hi=>hk i (a.lt' hi) (fun e=>h.iO (e ▸ hi))),fun x=>?_⟩,pm,hsm,h.Dw,h.FB,h.Dv,h.iO,h.Vr,h.Nh,h.Vq,h.Vh,h.n1⟩,(Fr.grown hg).mono (fun i _ e=>.inr (.inr e)),fun _ _ h=>h⟩
 rw [s x]
 have:=hs x
 cases e:R' x<;>cases e':R x<;>rw [e,e'] at this<;>first|rfl|cases this
theorem Vs.left (h:Vs E w D R A):Calls Tryz.prog 140 #[vp E.b] w fun e w'=>e=.returned (.int .i64 ((E.n-num R E.n:Nat):Int))∧w'=w:=by
 obtain ⟨U,T,a,s⟩:=h.pool
 have hl:=GG a.inv s
 have e0:E.n-num R E.n=cnt U 0 E.n:=by omega
 have c1:=h.c1
 have hL:=XD a
 rw [e0]
 go_enter Tryz.func140,Tryz.ntmps140
 go_wp2_with (go_at_call 213;refine hL.mono ?_;rintro e w1 ⟨rfl,h1⟩;subst w1)
 go_ret
 exact ⟨rfl,rfl⟩
theorem Vs.Zd (h:Vs E w D R A) (f:Int) (hf:(Lit.int .i64 f).wf=true):Calls Tryz.prog 260 #[vp E.b,.int .i64 f] w fun e w'=>e=.returned (.bool (decide (val R f=1)))∧w'=w:=by
 have c2:=h.c2
 have hv:=h.yP f
 have hm:=h.map
 have ht:=DK R f
 go_enter Tryz.func260,Tryz.ntmps260
 go_wp2_with (at_lookup;refine iI rfl _ _ 97 rfl 3 Tryz.underlying97 _ (lX _) E.g _ _ rfl hm f rfl hf ?_;rw [ht])
 go_ret
 refine ⟨?_,rfl⟩
 by_cases e:val R f=1<;>simp [e]
 omega
theorem Vs.JY (_h:Vs E w D R A):Calls Tryz.prog 296 #[vp E.b,.int .i64 (-1)] w fun e w'=>e=.returned (.tuple #[])∧w'=w:=by
 go_enter Tryz.func296,Tryz.ntmps296
 go_wp2_with fail
 go_end0
 exact ⟨rfl,rfl⟩
theorem Vs.Td (h:Vs E w D R A) (f:Int) (hf:(R f).isSome=true) (hv:val R f<1000):Calls Tryz.prog 296 #[vp E.b,.int .i64 f] w fun e w'=>e=.returned (.tuple #[])∧ou E w A w' D (jq R f (val R f+1)):=by
 have c2:=h.c2
 have hm:=h.map
 have ht:=DK R f
 have hw:=h.within f hf
 have hn:=h.n256
 have hwf:(Lit.int .i64 f).wf=true:=fO hw.1 (by omega)
 have hne:¬f=-1:=by omega
 have hsz:num R E.n<maxLen:=by have:=vU R E.n;unfold maxLen;omega
 have hfin:∀w',aK w' E.g (if (tm R f).isSome then num R E.n else num R E.n+1) (fun i=>if i=f then some (.int .i64 ((val R f:Int)+1)) else tm R i)→w.grownBy w' (some E.g)→ou E w A w' D (jq R f (val R f+1)):=by
  intro w' pm hg
  rw [wB,if_pos hf,show ((val R f:Int)+1)=((val R f+1:Nat):Int) by omega,Ea] at pm
  refine h.count hg (by rw [xG hf];exact pm) (fun x k hk=>?_) (fun x=>?_)
  ·unfold jq at hk;split at hk
   ·cases hk;omega
   ·exact h.small x k hk
  ·unfold jq;split
   ·rename_i e;rw [e,hf];rfl
   ·rfl
 generalize val R f=v at *
 go_enter Tryz.func296,Tryz.ntmps296
 go_wp2_with (first
  |(at_lookup;refine iI rfl _ _ 97 rfl 3 Tryz.underlying97 _ (lX _) E.g _ _ rfl hm f rfl hwf ?_;rw [ht])
  |(at_mapUpdate;refine ik rfl _ _ _ 97 rfl 3 Tryz.underlying97 E.g _ _ rfl hm hsz f rfl hwf (.int .i64 ((v:Int)+1)) rfl ?_;intro w1 yB g1))
 go_end0
 exact ⟨rfl,hfin _ yB g1⟩
def di (R:Int→Option Nat) (f:Int):Int→Option Nat:=fun x=>if x=f then (if val R f≤1 then none else some (val R f-1)) else R x
theorem C8 {R:Int→Option Nat}{f x:Int}:val (di R f) x=if x=f then val R f-1 else val R x:=by
 unfold val di;by_cases e:x=f
 ·simp only [if_pos e];split
  ·rename_i h;unfold val at h;rw [Option.getD_none];omega
  ·rfl
 ·simp only [if_neg e]
theorem rO {R:Int→Option Nat}(h:R (-1)=none):di R (-1)=R:=by
 funext x;unfold di;split
 ·rename_i e;rw [e,h];simp [val,h]
 ·rfl
theorem A8 {R:Int→Option Nat}{n:Nat}{f:Int}(h0:0≤f) (h1:f<(n:Int)) (hf:(R f).isSome=true) (hv:val R f≤1):num (di R f) n+1=num R n:=by
 have ef:((f.toNat:Nat):Int)=f:=by omega
 refine (gG (f:=f.toNat) (d:=1) ?_ (fun i hi=>?_) n 0 (by omega) (by omega)).symm
 ·simp [di,ef,hf,hv]
 ·have:¬(i:Int)=f:=by omega
  simp [di,this]
theorem mM {R:Int→Option Nat}{f:Int}(hv:1<val R f):di R f=jq R f (val R f-1):=by
 funext x;unfold di jq;split
 ·rw [if_neg (by omega)]
 ·rfl
theorem tT {R:Int→Option Nat}{f:Int}(hv:val R f≤1):di R f=fun x=>if x=f then none else R x:=by
 funext x;unfold di;rw [if_pos hv]
theorem drop_nil (b:Nat) (w:World):Calls Tryz.prog 295 #[vp b,.int .i64 (-1)] w fun e w'=>e=.returned (.tuple #[])∧w'=w:=by
 go_enter Tryz.func295,Tryz.ntmps295
 go_wp2_with fail
 (try simp only [Exit.inBlock,Exit.then]);refine bodyPost_ret (results_none rfl _ _ _) rfl ?_
 exact ⟨rfl,rfl⟩
theorem Vs.Qa (h:Vs E w D R A):Calls Tryz.prog 295 #[vp E.b,.int .i64 (-1)] w fun e w'=>e=.returned (.tuple #[])∧ou E w A w' D (di R (-1)):=by
 refine (drop_nil E.b w).mono ?_
 rintro e w' ⟨he,hw⟩
 subst hw
 exact ⟨he,by rw [rO (h.neg (by omega:(-1:Int)<0))];exact ou.refl h⟩
theorem G5 {b g s:Nat}(c2:w.cell? ⟨b,2,none⟩=some (.map (some g))) (hm:aK w g s (tm R)) (hs:s<maxLen) (hbg:b≠g) (f:Int) (h0:0≤f) (h1:f<1000) (hv1:1<val R f) (hvl:val R f≤1000):Calls Tryz.prog 295 #[vp b,.int .i64 f] w fun e w'=>e=.returned (.tuple #[])∧aK w' g s (tm (di R f))∧w.grownBy w' (some g):=by
 have hf:(tm R f).isSome=true:=by
  rw [wB];cases e:R f with
  |none=>rw [val,e] at hv1;simp at hv1
  |some k=>rfl
 have ht:=DK R f
 have hwf:(Lit.int .i64 f).wf=true:=fO h0 (by omega)
 have hne:¬f=-1:=by omega
 have hfin:∀w',aK w' g (if (tm R f).isSome then s else s+1) (fun i=>if i=f then some (.int .i64 ((val R f:Int)-1)) else tm R i)→aK w' g s (tm (di R f)):=by
  intro w' pm
  rw [if_pos hf,show ((val R f:Int)-1)=((val R f-1:Nat):Int) by omega,Ea] at pm
  rw [mM hv1];exact pm
 generalize val R f=v at *
 have hbs:some b≠some g:=fun e=>hbg (Option.some.inj e)
 go_enter Tryz.func295,Tryz.ntmps295
 go_wp2_with (first
  |(at_lookup;refine iI rfl _ _ 97 rfl 3 Tryz.underlying97 _ (lX _) g _ _ rfl hm f rfl hwf ?_;rw [ht])
  |(at_lookup;refine iI rfl _ _ 97 rfl 3 Tryz.underlying97 _ (lX _) g _ _ rfl yB f rfl hwf ?_;simp only [if_true,Option.getD_some])
  |(at_mapUpdate;refine ik rfl _ _ _ 97 rfl 3 Tryz.underlying97 g _ _ rfl hm hs f rfl hwf (.int .i64 ((v:Int)-1)) rfl ?_;intro w1 yB g1;have c2':=g1.cell c2 hbs))
 go_end0
 exact ⟨rfl,hfin _ yB,g1⟩
theorem nH {R:Int→Option Nat}{f:Int}(hv:1≤val R f):(R f).isSome=true:=by
 cases e:R f with
 |none=>rw [val,e] at hv;simp at hv
 |some k=>rfl
theorem A7 {R:Int→Option Nat}{n:Nat}{f:Int}(hv:1<val R f):num (di R f) n=num R n:=by
 rw [mM hv];exact xG (nH (by omega))
theorem AU {R:Int→Option Nat}{f:Int}(hv:1<val R f) (x:Int):(di R f x).isSome=(R x).isSome:=by
 rw [mM hv];unfold jq;split
 ·rename_i e;rw [e,nH (by omega)];rfl
 ·rfl
theorem Vs.Qb (h:Vs E w D R A) (f:Int) (hv1:1<val R f):Calls Tryz.prog 295 #[vp E.b,.int .i64 f] w fun e w'=>e=.returned (.tuple #[])∧ou E w A w' D (di R f):=by
 have hw:=h.within f (nH (by omega))
 have hn:=h.n256
 refine (G5 h.c2 h.map (by have:=vU R E.n;unfold maxLen;omega) h.Nh f hw.1 (by omega) hv1 (h.yP f)).mono ?_
 rintro e w' ⟨he,pm,hg⟩
 refine ⟨he,h.count hg (by rw [A7 hv1];exact pm) (fun x k hk=>?_) (AU hv1)⟩
 rw [mM hv1] at hk
 unfold jq at hk;split at hk
 ·cases hk;have:=h.yP f;omega
 ·exact h.small x k hk
theorem Vs.Qc (h:Vs E w D R A) (f:Int) (hv1:val R f=1):Calls Tryz.prog 295 #[vp E.b,.int .i64 f] w fun e w'=>e=.returned (.tuple #[])∧ou E w A w' D (di R f):=by
 have hf:(R f).isSome=true:=by
  cases e:R f with
  |none=>rw [val,e] at hv1;simp at hv1
  |some k=>rfl
 have c1:=h.c1
 have c2:=h.c2
 have hbg:=h.Nh
 have hm:=h.map
 have ht:=DK R f
 have hw:=h.within f hf
 have hn:=h.n256
 have hwf:(Lit.int .i64 f).wf=true:=fO hw.1 (by omega)
 have hne:¬f=-1:=by omega
 have hsz:num R E.n<maxLen:=by have:=vU R E.n;unfold maxLen;omega
 have Je:=A8 hw.1 hw.2 hf (by omega)
 have hfin:∀w2 s,aK w2 E.g s (fun i=>if i=f then none else if i=f then some (.int .i64 0) else tm R i)→s+1=num R E.n→Fr (·=E.g) w w2→Calls Tryz.prog 330 #[pp E.bp,.int .i64 f,.int .i64 0] w2 fun e w'=>e=.returned .nilIface∧ou E w A w' D (di R f):=by
  intro w2 s pm hs fr
  obtain ⟨U,T,a,so⟩:=h.pool
  have hT:T f=some 0:=by
   rw [so f];cases e:R f with
   |none=>rw [e] at hf;cases hf
   |some k=>rfl
  have hk:∀i,i<w.heap.size→i≠E.g→w2.heap[i]? = w.heap[i]? := fun i hi hn=>fr.block i hi hn
  have a2:=a.keep' (fun i hi=>hk i (a.lt' hi) (fun e=>h.iO (e ▸ hi)))
  obtain ⟨q,rfl⟩:∃q:Nat,f=(q:Int):=⟨f.toNat,by omega⟩
  refine (give0 a2 q hT).mono ?_
  rintro e w' ⟨he,U',A',a',fr',sub'⟩
  have hl:∀i,i<w.heap.size→i<w2.heap.size:=fun i hi=>Nat.lt_of_lt_of_le hi fr.size
  have hk':∀i,i<w.heap.size→i≠E.g→¬A i→w'.heap[i]? = w.heap[i]? := fun i hi hn hA=>(fr'.block i (hl i hi) hA).trans (hk i hi hn)
  have hpm:(fun i=>if i=(q:Int) then none else if i=(q:Int) then some (.int .i64 0) else tm R i)=tm (di R q):=by
   rw [tT (by omega)];funext i;unfold tm;by_cases e:i=(q:Int)<;>simp [e]
  rw [hpm] at pm
  refine ⟨he,A',⟨(hk' _ h.blt h.Nh h.Dw).trans h.head,h.mem.keep (hk' _ h.mlt h.Vq h.FB) (hk' _ h.slt h.Vh h.Dv),⟨U',_,a',fun x=>?_⟩,?_,fun x k hx=>?_,fun ha=>h.Dw (sub' _ (hl _ h.blt) ha),fun ha=>h.FB (sub' _ (hl _ h.mlt) ha),fun ha=>h.Dv (sub' _ (hl _ h.slt) ha),fun ha=>h.iO (sub' _ (hl _ h.uk) ha),h.Vr,h.Nh,h.Vq,h.Vh,h.n1⟩,?_,fun i hi ha=>sub' i (hl i hi) ha⟩
  ·rw [tT (by omega)];simp only;split
   ·rfl
   ·exact so x
  ·rw [show num (di R q) E.n=s by omega]
   exact pm.keep (fr'.block _ pm.lt h.iO)
  ·rw [tT (by omega)] at hx;simp only at hx;split at hx
   ·cases hx
   ·exact h.small x k hx
  ·exact (fr.mono (fun i _ e=>.inr (.inr e))).trans fr' (fun i _ ha=>.inl ha)
 have hsm:(tm R f).isSome=true:=by rw [wB];exact hf
 have hnp:1≤num R E.n:=by omega
 replace ht:(tm R f).getD (.int .i64 0)=.int .i64 1:=by rw [ht,hv1];rfl
 generalize num R E.n=nn at *
 have hbs:some E.b≠some E.g:=fun e=>hbg (Option.some.inj e)
 go_enter Tryz.func295,Tryz.ntmps295
 go_wp2_with (first
  |(at_lookup;refine iI rfl _ _ 97 rfl 3 Tryz.underlying97 _ (lX _) E.g _ _ rfl hm f rfl hwf ?_;rw [ht])
  |(at_lookup;refine iI rfl _ _ 97 rfl 3 Tryz.underlying97 _ (lX _) E.g _ _ rfl yB f rfl hwf ?_;simp only [if_true,Option.getD_some])
  |(at_mapUpdate;refine ik rfl _ _ _ 97 rfl 3 Tryz.underlying97 E.g _ _ rfl hm hsz f rfl hwf (.int .i64 0) rfl ?_;intro w1 yB g1;have c2':=g1.cell c2 hbs)
  |(at_delete;refine nE rfl _ _ 97 rfl 3 Tryz.underlying97 E.g _ _ rfl yB f rfl hwf ?_;intro w2 wX g2;have c1':=g2.cell (g1.cell c1 hbs) hbs)
  |(go_at_call 330;refine (hfin _ _ wX (by simp [hsm];omega) ((Fr.grown g1).trans (Fr.grown g2) (fun _ _ h=>h))).mono ?_;rintro e w3 ⟨rfl,t3⟩))
 go_end0
 exact ⟨rfl,t3⟩
theorem Vs.EC (h:Vs E w D R A) (f:Int) (hf:f=-1∨(R f).isSome=true):Calls Tryz.prog 295 #[vp E.b,.int .i64 f] w fun e w'=>e=.returned (.tuple #[])∧ou E w A w' D (di R f):=by
 rcases hf with rfl|hf
 ·exact h.Qa
 ·by_cases hv:val R f=1
  ·exact h.Qc f hv
  ·exact h.Qb f (by have:=h.VX hf;omega)
def fq (D:Nat→Nat→Int) (f:Int):Nat→Int:=fun j=>if f=-1 then 0 else D f.toNat j
theorem Vs.RU (h:Vs E w D R A) (f:Int) (hf:f=-1∨1<val R f) :
 Calls Tryz.prog 261 #[vp E.b,.int .i64 f] w fun e w'=>(num R E.n=E.n∧e=.returned (.tuple #[.int .i64 (-1),Lj 12])∧w'=w)∨
  ∃k:Nat,k<E.n∧R (k:Int)=none∧e=.returned (.tuple #[.int .i64 (k:Int),.nilIface])∧ou E w A w' (row D k (fq D f)) (jq (di R f) (k:Int) 1):=by
 obtain ⟨U,T,a,so⟩:=h.pool
 have hn:=h.n256
 have ajH:=GG a.inv so
 have c0:=h.c0
 have c1:=h.c1
 have c2:=h.c2
 -- all that comes behind the af6 answer
 have hfin:∀(k:Nat) (w1 w2 w3 w4:World) (A':Nat→Prop) (U':Nat→Bool) (s:Nat),k<E.n→R (k:Int)=none→At w1 E.bp E.n U' (fun z=>if z=(k:Int) then some 0 else T z) 257 A'→Fr A w w1→(∀i,i<w.heap.size→A' i→A i)→
  Mem w2 E.bm E.sm E.n (row D k (fq D f))→w1.grownBy w2 (some E.sm)→w2.grownBy w3 (some E.g)→w3.grownBy w4 (some E.g)→aK w4 E.g s (tm (jq (di R f) (k:Int) 1))→ou E w A w4 (row D k (fq D f)) (jq (di R f) (k:Int) 1):=by
  intro k w1 w2 w3 w4 A' U' s hk hRk a1 f1 sub m2 g2 g3 g4 pm
  have l1:∀i,i<w.heap.size→i<w1.heap.size:=fun i hi=>Nat.lt_of_lt_of_le hi f1.size
  have l2:∀i,i<w1.heap.size→i<w2.heap.size:=fun i hi=>Nat.lt_of_lt_of_le hi g2.size
  have l3:∀i,i<w2.heap.size→i<w3.heap.size:=fun i hi=>Nat.lt_of_lt_of_le hi g3.size
  have k4:∀i,i<w2.heap.size→i≠E.g→w4.heap[i]? = w2.heap[i]? := fun i hi hg=>(g4.block i (l3 i hi) (fun e=>hg (Option.some.inj e))).trans (g3.block i hi (fun e=>hg (Option.some.inj e)))
  have k2:∀i,i<w1.heap.size→i≠E.g→i≠E.sm→w4.heap[i]? = w1.heap[i]? := fun i hi hg hs=>(k4 i (l2 i hi) hg).trans (g2.block i hi (fun e=>hs (Option.some.inj e)))
  have hA':∀i,A' i→i≠E.g∧i≠E.sm:=fun i hi=>⟨fun e=>h.iO (sub _ h.uk (e ▸ hi)),fun e=>h.Dv (sub _ h.slt (e ▸ hi))⟩
  have hsome:∀x,(di R f x).isSome=(R x).isSome:=by
   rcases hf with rfl|hv
   ·intro x;rw [rO (h.neg (by omega))]
   ·exact AU hv
  have hdk:di R f (k:Int)=none:=by
   have:=hsome k;rw [hRk] at this;cases e:di R f (k:Int) with
   |none=>rfl
   |some v=>rw [e] at this;cases this
  have hwi:Within (jq (di R f) (k:Int) 1) E.n:=by
   refine Within.put (fun x hx=>h.within x (by rw [←hsome];exact hx)) (by omega) (by omega)
  refine ⟨A',⟨?_,m2.keep (k4 _ (l2 _ (l1 _ h.mlt)) h.Vq) (k4 _ (l2 _ (l1 _ h.slt)) h.Vh),⟨U',_,a1.shrink.keep' (fun i hi=>k2 i (a1.lt' hi) (hA' i hi).1 (hA' i hi).2),fun x=>?_⟩,?_,fun x v hx=>?_,fun ha=>h.Dw (sub _ h.blt ha),fun ha=>h.FB (sub _ h.mlt ha),fun ha=>h.Dv (sub _ h.slt ha),fun ha=>h.iO (sub _ h.uk ha),h.Vr,h.Nh,h.Vq,h.Vh,h.n1⟩,?_,sub⟩
  ·exact ((k2 _ (l1 _ h.blt) h.Nh h.Vr).trans (f1.block _ h.blt h.Dw)).trans h.head
  ·simp only [jq];split
   ·rfl
   ·rw [so x];have:=hsome x
    cases e:di R f x<;>cases e':R x<;>rw [e,e'] at this<;>first|rfl|cases this
  ·rw [←pm.Gf hwi];exact pm
  ·unfold jq at hx;split at hx
   ·cases hx;omega
   ·rcases hf with rfl|hv
    ·rw [rO (h.neg (by omega))] at hx;exact h.small x v hx
    ·rw [mM hv] at hx;unfold jq at hx;split at hx
     ·cases hx;have:=h.yP f;omega
     ·exact h.small x v hx
  ·exact (((f1.mono (fun i _ h=>.inl h)).trans (Fr.grown g2) (fun i _ e=>.inr (.inl e))).trans (Fr.grown g3) (fun i _ e=>.inr (.inr e))).trans (Fr.grown g4) (fun i _ e=>.inr (.inr e))
 have hbs:some E.b≠some E.g:=fun e=>h.Nh (Option.some.inj e)
 have hbm:some E.b≠some E.sm:=fun e=>h.Vr (Option.some.inj e)
 go_enter Tryz.func261,Tryz.ntmps261
 go_wp2_with fail
 refine (abG a (by omega)).mono ?_
 rintro e w1 (⟨hcnt,rfl,hw⟩|⟨k,hk,hT,rfl,U',A',a1,f1,sub⟩)
 ·subst w1
  go_wp2_with fail
  go_ret2
  exact .inl ⟨by omega,rfl,rfl⟩
 ·have hRk:R (k:Int)=none:=by
   have:=so k;rw [hT] at this;cases e:R (k:Int) with
   |none=>rfl
   |some v=>rw [e] at this;cases this
  have hb1:=f1.block _ h.blt h.Dw
  have d0:w1.cell? ⟨E.b,0,none⟩=some (mp E.bm):=by rw [World.cell?_of_block (w:=w) (a:=⟨E.b,0,none⟩) hb1];exact c0
  have d2:w1.cell? ⟨E.b,2,none⟩=some (.map (some E.g)):=by rw [World.cell?_of_block (w:=w) (a:=⟨E.b,2,none⟩) hb1];exact c2
  have m1:=h.mem.keep (f1.block _ h.mlt h.FB) (f1.block _ h.slt h.Dv)
  have yB:=h.map.keep (f1.block _ h.uk h.iO)
  have afD:=h.Vh
  have hgs:some E.g≠some E.sm:=fun e=>afD (Option.some.inj e).symm
  have VL:E.g<w1.heap.size:=yB.lt
  have Je:=vU R E.n
  have hmax:num R E.n<maxLen:=by unfold maxLen;omega
  have acC:(Lit.int .i64 (k:Int)).wf=true:=fO (by omega) (by omega)
  have hwin:=h.within
  have hvl:=h.yP f
  have hneg:=h.neg (x:=-1) (by omega)
  have afE:=h.Nh
  have hput:∀(w3 w4:World) (s:Nat),aK w4 E.g s (fun i=>if i=(k:Int) then some (.int .i64 1) else tm (di R f) i)→aK w4 E.g s (tm (jq (di R f) (k:Int) 1)):=fun w3 w4 s pm=>by
   rw [←Ea];exact pm
  rcases hf with rfl|hv
  ·have hZ:=VP m1 (k:Int) (by omega) (by omega)
   have e0:fq D (-1)=fun _=>0:=by funext j;simp [fq]
   have edr:di R (-1)=R:=rO hneg
   go_wp2_with fail
   refine hZ.mono ?_
   rintro e w2 ⟨rfl,m2,_,g2⟩
   have d0':=g2.cell d0 hbm
   have d2':=g2.cell d2 hbm
   have wX:=yB.keep (g2.block _ VL hgs)
   go_wp2_with (first
    |(go_at_call 295;refine (drop_nil _ _).mono ?_;rintro e w3 ⟨rfl,h3⟩;subst w3)
    |(at_mapUpdate;refine ik rfl _ _ _ 97 rfl 3 Tryz.underlying97 E.g _ _ rfl wX hmax (k:Int) rfl acC _ rfl ?_;intro w4 Qy g4))
   go_ret2
   refine .inr ⟨k,hk,hRk,rfl,hfin k w1 w2 w2 w4 A' U' _ hk hRk a1 f1 sub (by rw [e0];simpa using m2) g2 (World.grownBy.refl w2 _) g4 (hput w2 w4 _ (by rw [edr];exact Qy))⟩
  ·have hwf:=hwin f (nH (by omega))
   have hC:=Ym m1 (k:Int) f (by omega) (by omega) hwf.1 hwf.2
   have hnf:¬f=-1:=by omega
   have e0:fq D f=D f.toNat:=by funext j;simp [fq,hnf]
   go_wp2_with fail
   refine hC.mono ?_
   rintro e w2 ⟨rfl,m2,_,g2⟩
   have d2':=g2.cell d2 hbm
   have wX:=yB.keep (g2.block _ VL hgs)
   have hdr:=G5 d2' wX hmax afE f hwf.1 (by omega) hv hvl
   go_wp2_with fail
   refine hdr.mono ?_
   rintro e w3 ⟨rfl,Zu,g3⟩
   have d3:=g3.cell d2' hbs
   go_wp2_with (at_mapUpdate;refine ik rfl _ _ _ 97 rfl 3 Tryz.underlying97 E.g _ _ rfl Zu hmax (k:Int) rfl acC _ rfl ?_;intro w4 Qy g4)
   go_ret2
   exact .inr ⟨k,hk,hRk,rfl,hfin k w1 w2 w3 w4 A' U' _ hk hRk a1 f1 sub (by rw [e0];simpa using m2) g2 g3 g4 (hput w3 w4 _ Qy)⟩
end
def vO (P:PM):Int→Option Value:=fun a=>(P a).map fun p=>.agg #[.int .i64 p.1,.int .i64 p.2]
def pg (P:PM) (a:Int):Int×Int:=(P a).getD (0,0)
theorem El (P:PM) (a:Int):(vO P a).getD (.agg #[.int .i64 0,.int .i64 0])=.agg #[.int .i64 (pg P a).1,.int .i64 (pg P a).2]:=by
 unfold vO pg;cases P a<;>rfl
theorem mr (P:PM) (a:Int):(vO P a).isSome=(P a).isSome:=by unfold vO;cases P a<;>rfl
theorem Ej (P:PM) (a x y:Int):(fun i=>if i=a then some (.agg #[.int .i64 x,.int .i64 y]) else vO P i)=vO (dE P a (x,y)):=by
 funext i;unfold vO dE;split<;>rfl
theorem WM (P:PM) (a:Int):(fun i=>if i=a then none else vO P i)=vO (mV P a):=by
 funext i;by_cases e:i=a<;>simp [vO,mV,e]
theorem DN {P:PM}{a:Int}(h:(P a).isSome=true):(pg P a).2=aR P a:=by
 unfold pg aR;cases e:P a with
 |none=>rw [e] at h;cases h
 |some p=>rfl
theorem WN {P:PM}{a:Int}(h:(P a).isSome=true):P a=some (pg P a):=by
 unfold pg;cases e:P a with
 |none=>rw [e] at h;cases h
 |some p=>rfl
structure Sp (w:World) (c b gc:Nat) (P:PM):Prop where
 head:w.heap[c]? = some (.cells #[vp b,.map (some gc)] 165)
 map:aK w gc (bX P) (vO P)
theorem wh (w:World):(zeroValue 264).run Tryz.prog w=.ok (.agg #[.int .i64 0,.int .i64 0]) w:=by kernel_rfl
theorem xE (x y:Int) (W:World):(Instr.field 264 (.agg #[.int .i64 x,.int .i64 y]) 1).run Tryz.prog W=.ok (.int .i64 y) W:=by kernel_rfl
theorem pE (g:Nat→Nat):∀(m a:Nat),sumTo g a (m+1)=sumTo g a m+g (a+m)
 |0,a=>by simp [sumTo]
 |m+1,a=>by rw [sumTo,pE g m (a+1),sumTo];rw [show a+1+m=a+(m+1) by omega];omega
def iP (P:PM) (a:Int) (n:Nat):Nat:=sumTo (fun i=>if (P (a+i)).isSome then 1 else 0) 0 n
theorem wO (P:PM) (a:Int) (n:Nat):iP P a (n+1)=iP P a n+if (P (a+n)).isSome then 1 else 0:=by
 unfold iP;rw [pE,Nat.zero_add]
theorem MO (P:PM) (a:Int) (n:Nat):iP P a n≤n:=by
 have:=iy (g:=fun i:Nat=>if (P (a+i)).isSome then 1 else 0) (d:=1) n 0 (fun i=>by split<;>omega)
 unfold iP;omega
theorem rJ {P:PM}{a:Int}:∀ {n:Nat},iP P a n=0→∀i:Nat,i<n→P (a+i)=none
 |n+1,h,i,hi=>by
  rw [wO] at h
  by_cases e:i=n
  ·subst e;cases e':P (a+i) with
   |none=>rfl
   |some p=>rw [e'] at h;simp at h
  ·exact rJ (n:=n) (by omega) i (by omega)
theorem u7 {P:PM}{a:Int}:∀ {n:Nat},¬iP P a n<n→∀i:Nat,i<n→(P (a+i)).isSome=true
 |n+1,h,i,hi=>by
  rw [wO] at h
  have:=MO P a n
  by_cases e:i=n
  ·subst e;cases e':(P (a+i)).isSome with
   |true=>rfl
   |false=>rw [e'] at h;simp at h;omega
  ·refine u7 (n:=n) ?_ i (by omega)
   split at h<;>omega
section
variable {w w':World}{c b gc:Nat}{P:PM}
theorem Sp.lt (h:Sp w c b gc P):c<w.heap.size:=lt_of_heap h.head
theorem Sp.uk (h:Sp w c b gc P):gc<w.heap.size:=h.map.lt
theorem Sp.ne (h:Sp w c b gc P):c≠gc:=by
 rintro rfl
 obtain ⟨es,cl,hm⟩:=h.map.isMap
 rw [h.head] at hm;cases hm
theorem Sp.keep (h:Sp w c b gc P) (h1:w'.heap[c]? = w.heap[c]?) (h2:w'.heap[gc]? = w.heap[gc]?):Sp w' c b gc P:=⟨h1.trans h.head,h.map.keep h2⟩
theorem Sp.below (h:Sp w c b gc P) (hb:Below w.heap.size w w'):Sp w' c b gc P:=h.keep (hb.block c h.lt) (hb.block gc h.uk)
theorem Sp.c0 (h:Sp w c b gc P):w.cell? ⟨c,0,none⟩=some (vp b):=by rw [cell_of_row w c 0 _ _ _ h.head];rfl
theorem Sp.c1 (h:Sp w c b gc P):w.cell? ⟨c,1,none⟩=some (.map (some gc)):=by rw [cell_of_row w c 1 _ _ _ h.head];rfl
theorem find_ok (h:Sp w c b gc P) (a:Int) (ha:(Lit.int .i64 a).wf=true):Calls Tryz.prog 214 #[vp c,.int .i64 a] w fun e w'=>e=.returned (.tuple #[.agg #[.int .i64 (pg P a).1,.int .i64 (pg P a).2],.bool (P a).isSome])∧Below w.heap.size w w':=by
 have c1:=h.c1
 have hm:=h.map
 have hg:=El P a
 have hs:=mr P a
 have hlt:=h.lt
 have VL:=h.uk
 clear h
 generalize (pg P a).1=x at *
 generalize (pg P a).2=y at *
 generalize (P a).isSome=t at *
 have e1:∀o,(w.alloc o).cell? ⟨c,1,none⟩=some (.map (some gc)):=fun o=>by rw [World.cell?_of_block (w:=w) (a:=⟨c,1,none⟩) (Below.heap_alloc _ _ _ hlt)];exact c1
 go_enter Tryz.func214,Tryz.ntmps214
 go_wp2_with (at_lookup;refine xA rfl _ _ 163 rfl 264 Tryz.underlying163 _ (wh _) gc _ _ rfl (hm.keep (Below.heap_alloc _ _ _ VL)) a rfl ha ?_;rw [hg,hs])
 refine bodyPost_ret (v:=.tuple #[.agg #[.int .i64 x,.int .i64 y],.bool t]) (by simp [results,Tryz.results214,go_sem]) rfl ⟨rfl,?_⟩
 repeat first|exact Below.refl _ _|refine Below.alloc ?_ (by first|omega|(simp<;>omega)) _|refine Below.setCell ?_ (by first|omega|(simp<;>omega)) _
def Bl (a n:Int):Bool:=decide (1≤n) && decide (0≤a) && decide (a+n≤64)
def Vv (p:Int):Bool:=decide (1≤p) && decide (p≤3)
theorem lK {a n:Int}:Bl a n=true↔1≤n∧0≤a∧a+n≤64:=by unfold Bl;simp [and_assoc]
theorem GM {p:Int}:Vv p=true↔1≤p∧p≤3:=by unfold Vv;simp
theorem qU (w:World) (a n:Int) (hn:n≤9223372036854775807):Calls Tryz.prog 243 #[.int .i64 a,.int .i64 n] w fun e w'=>e=.returned (.bool (Bl a n))∧w'=w:=by
 by_cases h1:1≤n<;>by_cases h2:0≤a<;>by_cases h3:a+n≤64
 all_goals
  have hA:Bl a n=(decide (1≤n) && decide (0≤a) && decide (a+n≤64)):=rfl
  simp only [h1,h2,h3,decide_true,decide_false,Bool.and_true,Bool.and_false] at hA
  rw [hA]
  clear hA
  try have h4:a≤64-n:=by omega
  try have h4:¬a≤64-n:=by omega
  go_enter Tryz.func243,Tryz.ntmps243
  go_wp2_with fail
  go_ret
  exact ⟨rfl,rfl⟩
theorem CQ (w:World) (p:Int):Calls Tryz.prog 244 #[.int .i64 p] w fun e w'=>e=.returned (.bool (Vv p))∧w'=w:=by
 by_cases h1:1≤p<;>by_cases h2:p≤3
 all_goals
  have hA:Vv p=(decide (1≤p) && decide (p≤3)):=rfl
  simp only [h1,h2,decide_true,decide_false,Bool.and_true,Bool.and_false] at hA
  rw [hA]
  clear hA
  go_enter Tryz.func244,Tryz.ntmps244
  go_wp2_with fail
  go_ret
  exact ⟨rfl,rfl⟩
theorem Sp.count (h:Sp w c b gc P) (a:Int) (n:Nat) (h0:0≤a) (h1:a+n≤64):Calls Tryz.prog 245 #[vp c,.int .i64 a,.int .i64 (n:Int)] w fun e w'=>e=.returned (.int .i64 (iP P a n:Nat))∧Below w.heap.size w w':=by
 go_enter Tryz.func245,Tryz.ntmps245
 go_wp2_with fail
 go_loopg [7,12] n (fun mm s7 s12 wr=>∃i:Nat,i+mm=n∧s12=.int .i64 (i:Int)∧s7=.int .i64 (iP P a i:Nat)∧Below w.heap.size w wr)
 case atStart=>exact ⟨0,by omega,rfl,rfl,Below.refl _ _⟩
 case round=>
  obtain ⟨i,hi,rfl,rfl,hb⟩:=hrel
  have hle:=MO P a i
  by_cases hlt:(i:Int)<(n:Int)
  ·have hF:=find_ok (h.below hb) (a+i) (fO (by omega) (by omega))
   have hnx:=wO P a i
   have hbl:=hb.size
   generalize (pg P (a+i)).1=x at *
   generalize (pg P (a+i)).2=y at *
   generalize hS1:iP P a (i+1)=S1 at *
   generalize iP P a i=S0 at *
   clear h
   cases ht:(P (a+i)).isSome with
   |true=>
    rw [ht] at hF hnx
    replace hnx:S1=S0+1:=hnx
    go_wp2_with (go_at_call 214;refine hF.mono ?_;rintro e w1 ⟨rfl,b1⟩)
    go_roundg (n-(i+1))
    case measure=>omega
    case rel=>
     refine ⟨i+1,by omega,by go_num,by rw [hS1,hnx];go_num,?_⟩
     have b2:=hb.trans (b1.mono hb.size)
     have:=b2.size
     repeat first|exact b2|refine Below.alloc ?_ (by first|omega|(simp<;>omega)) _|refine Below.setCell ?_ (by first|omega|(simp<;>omega)) _
   |false=>
    rw [ht] at hF hnx
    replace hnx:S1=S0:=hnx
    go_wp2_with (go_at_call 214;refine hF.mono ?_;rintro e w1 ⟨rfl,b1⟩)
    go_roundg (n-(i+1))
    case measure=>omega
    case rel=>
     refine ⟨i+1,by omega,by go_num,by rw [hS1,hnx],?_⟩
     have b2:=hb.trans (b1.mono hb.size)
     have:=b2.size
     repeat first|exact b2|refine Below.alloc ?_ (by first|omega|(simp<;>omega)) _|refine Below.setCell ?_ (by first|omega|(simp<;>omega)) _
  ·have hin:i=n:=by omega
   subst hin
   go_wp2_with fail
   go_ret
   exact ⟨rfl,hb⟩
def dN (P:PM) (a k use:Int):Int:=match P a with|none=>7|some p=>if 0≤k∧k<8 then (if p.1 / use % 2=0 then 13 else 0) else 2
theorem YC {p use:Int}(hp:1≤p∧p≤3) (hu:use=1∨use=2):∃v,bits BinOp.and IntKind.i64 p use=v∧(v=0↔p / use % 2=0):=by
 obtain ⟨h1,h2⟩:=hp
 have:p=1∨p=2∨p=3:=by omega
 rcases this with rfl|rfl|rfl<;>rcases hu with rfl|rfl
 ·exact ⟨1,by kernel_rfl,by decide⟩
 ·exact ⟨0,by kernel_rfl,by decide⟩
 ·exact ⟨0,by kernel_rfl,by decide⟩
 ·exact ⟨2,by kernel_rfl,by decide⟩
 ·exact ⟨1,by kernel_rfl,by decide⟩
 ·exact ⟨2,by kernel_rfl,by decide⟩
theorem mD {W:World}{i:Nat}{x y:Int}(h:W.heap[i]? = some (.cells #[.int .i64 x,.int .i64 y] 264)):W.cell? ⟨i,0,none⟩=some (.int .i64 x)∧W.cell? ⟨i,1,none⟩=some (.int .i64 y)∧W.frozen? ⟨i,0,none⟩=false∧W.frozen? ⟨i,1,none⟩=false:=by
 refine ⟨by rw [cell_of_row W i 0 _ _ _ h];rfl,by rw [cell_of_row W i 1 _ _ _ h];rfl,by simp [World.frozen?,h],by simp [World.frozen?,h]⟩
theorem qI (W:World) (o:Obj):(W.alloc o).heap[W.heap.size]? = some o:=by
 show (W.heap.push o)[W.heap.size]? = _
 rw [Array.getElem?_push,if_pos rfl]
theorem TC {W:World}{i:Nat}{x y:Value}{t:TypeId}(h:W.heap[i]? = some (.cells #[x,y] t)) (u v:Value) (o:Obj):(((W.setCell ⟨i,0,none⟩ u).setCell ⟨i,1,none⟩ v).alloc o).heap[i]? = some (.cells #[u,v] t):=by
 have h1:=heap_setCell_same W i 0 u _ _ _ h
 have h2:=heap_setCell_same _ i 1 v _ _ _ h1
 rw [Below.heap_alloc _ _ _ (lt_of_heap h2),h2];rfl
theorem qW {W:World}{i:Nat}{x y:Value}{t:TypeId}(h:W.heap[i]? = some (.cells #[x,y] t)) (u v:Value) (o:Obj):(((W.setCell ⟨i,0,none⟩ u).setCell ⟨i,1,none⟩ v).alloc o).cell? ⟨i,0,none⟩=some u∧(((W.setCell ⟨i,0,none⟩ u).setCell ⟨i,1,none⟩ v).alloc o).cell? ⟨i,1,none⟩=some v:=by
 have h2:=TC h u v o
 exact ⟨by rw [cell_of_row _ i 0 _ _ _ h2];rfl,by rw [cell_of_row _ i 1 _ _ _ h2];rfl⟩
theorem BZ {n:Nat}(h:Sp w c b gc P) (hok:lN n P) (a k use:Int) (ha:(Lit.int .i64 a).wf=true) (hu:use=1∨use=2) :
 Calls Tryz.prog 241 #[vp c,.int .i64 a,.int .i64 k,.int .i64 use] w fun e w'=>∃x y,e=.returned (.tuple #[.agg #[.int .i64 x,.int .i64 y],sD (dN P a k use)])∧(dN P a k use=0→P a=some (x,y))∧Below w.heap.size w w':=by
 have e1:∀o,Below w.heap.size w (w.alloc o):=fun o=>(Below.refl _ w).alloc (Nat.le_refl _) _
 have hF:=find_ok (h.below (e1 (.cells #[.int .i64 0,.int .i64 0] 264))) a ha
 have hn:=qI w (.cells #[.int .i64 0,.int .i64 0] 264)
 have hln:(w.alloc (.cells #[.int .i64 0,.int .i64 0] 264)).heap.size=w.heap.size+1:=by simp
 go_enter Tryz.func241,Tryz.ntmps241
 go_wp2_with fail
 refine hF.mono ?_
 rintro e w1 ⟨rfl,b1⟩
 have b2:Below w.heap.size w w1:=(e1 _).trans (b1.mono (by omega))
 have hl1:=b1.size
 have hblk:=(b1.block w.heap.size (by omega)).trans hn
 obtain ⟨r0,r1,f0,f1⟩:=mD hblk
 have s0:=fun u v o=>(qW hblk u v o).1
 have s1:=fun u v o=>(qW hblk u v o).2
 have hl2:w.heap.size<w1.heap.size:=by omega
 have hne:w.heap.size≠w1.heap.size:=by omega
 cases hP:P a with
 |none=>
  have hpg:pg P a=(0,0):=by unfold pg;rw [hP];rfl
  have hE:dN P a k use=7:=by unfold dN;rw [hP]
  rw [hpg]
  have HP:=hide hP
  simp only [Option.isSome_none]
  have HE:=hide hE
  go_wp2_with fail
  refine bodyPost_ret (v:=.tuple #[.agg #[.int .i64 0,.int .i64 0],Lj 7]) (by simp [results,Tryz.results241,go_sem,s0,s1]) rfl ⟨0,0,by rw [HE.out];rfl,fun h=>absurd (HE.out.symm.trans h) (by decide),?_⟩
  repeat first|exact b2|refine Below.alloc ?_ (by first|omega|(simp<;>omega)) _|refine Below.setCell ?_ (by first|omega|(simp<;>omega)) _
 |some p=>
  have hpg:pg P a=p:=by unfold pg;rw [hP];rfl
  have hpr:=hok.af a p hP
  obtain ⟨v,hv,hv0⟩:=YC hpr hu
  have hE:dN P a k use=if 0≤k∧k<8 then (if p.1 / use % 2=0 then 13 else 0) else 2:=by unfold dN;rw [hP]
  rw [hpg]
  have HP:=hide hP
  clear hP h hok hpg hF hn b1
  obtain ⟨x,y⟩:=p
  simp only [Option.isSome_some]
  simp only at hE hpr hv hv0
  by_cases hk0:k<0
  ·rw [if_neg (by omega)] at hE
   clear hv hv0
   have HE:=hide hE
   clear hE
   go_wp2_with fail
   refine bodyPost_ret (v:=.tuple #[.agg #[.int .i64 0,.int .i64 0],Lj 2]) (by simp [results,Tryz.results241,go_sem,s0,s1]) rfl ⟨0,0,by rw [HE.out];rfl,fun h=>absurd (HE.out.symm.trans h) (by decide),?_⟩
   repeat first|exact b2|refine Below.alloc ?_ (by first|omega|(simp<;>omega)) _|refine Below.setCell ?_ (by first|omega|(simp<;>omega)) _
  ·by_cases hk8:8≤k
   ·rw [if_neg (by omega)] at hE
    clear hv hv0
    have HE:=hide hE
    clear hE
    go_wp2_with fail
    refine bodyPost_ret (v:=.tuple #[.agg #[.int .i64 0,.int .i64 0],Lj 2]) (by simp [results,Tryz.results241,go_sem,s0,s1]) rfl ⟨0,0,by rw [HE.out];rfl,fun h=>absurd (HE.out.symm.trans h) (by decide),?_⟩
    repeat first|exact b2|refine Below.alloc ?_ (by first|omega|(simp<;>omega)) _|refine Below.setCell ?_ (by first|omega|(simp<;>omega)) _
   ·rw [if_pos (by omega)] at hE
    by_cases hz:v=0
    ·rw [if_pos (hv0.1 hz)] at hE
     rw [hz] at hv
     clear hv0 hz
     have HE:=hide hE
     clear hE
     go_wp2_with fail
     refine bodyPost_ret (v:=.tuple #[.agg #[.int .i64 0,.int .i64 0],Lj 13]) (by simp [results,Tryz.results241,go_sem,s0,s1]) rfl ⟨0,0,by rw [HE.out];rfl,fun h=>absurd (HE.out.symm.trans h) (by decide),?_⟩
     repeat first|exact b2|refine Below.alloc ?_ (by first|omega|(simp<;>omega)) _|refine Below.setCell ?_ (by first|omega|(simp<;>omega)) _
    ·rw [if_neg (fun h=>hz (hv0.2 h))] at hE
     clear hv0
     have HE:=hide hE
     clear hE
     go_wp2_with fail
     refine bodyPost_ret (v:=.tuple #[.agg #[.int .i64 x,.int .i64 y],.nilIface]) (by simp [results,Tryz.results241,go_sem,s0,s1]) rfl ⟨x,y,by rw [HE.out];rfl,fun _=>HP.out,?_⟩
     repeat first|exact b2|refine Below.alloc ?_ (by first|omega|(simp<;>omega)) _|refine Below.setCell ?_ (by first|omega|(simp<;>omega)) _
end
section
variable {w w':World}{c b gc:Nat}{P:PM}
theorem Sp.len (h:Sp w c b gc P):Calls Tryz.prog 143 #[vp c] w fun e w'=>e=.returned (.int .i64 (bX P:Nat))∧w'=w:=by
 have c1:=h.c1
 have hm:=h.map
 go_enter Tryz.func143,Tryz.ntmps143
 go_wp2_with (at_len;refine il rfl _ 163 rfl 264 Tryz.underlying163 gc _ _ rfl hm ?_)
 go_ret
 exact ⟨rfl,rfl⟩
end
def gT (t:Int→Nat):Int→Option Nat:=fun x=>if 0≤x∧t x≠0 then some (t x) else none
theorem pq {t:Int→Nat}{x:Int}(hx:0≤x):val (gT t) x=t x:=by
 unfold val gT;by_cases h:t x=0<;>simp [h,hx]
theorem abJ {R:Int→Option Nat}{t:Int→Nat}(h1:∀x,0≤x→val R x=t x) (h2:∀x,x<0→R x=none) (h3:∀x,R x≠some 0):R=gT t:=by
 funext x;unfold gT
 by_cases hx:0≤x
 ·have e:=h1 x hx
  cases hR:R x with
  |none=>rw [val,hR] at e;rw [if_neg];intro h;exact h.2 e.symm
  |some k=>
   rw [val,hR] at e
   have hk:k=t x:=e
   have:k≠0:=fun e0=>h3 x (by rw [hR,e0])
   rw [if_pos ⟨hx,by omega⟩,hk]
 ·rw [if_neg (fun h=>hx h.1),h2 x (by omega)]
theorem gI {t t':Int→Nat}(h:∀x,0≤x→t x=t' x):gT t=gT t':=by
 funext x;unfold gT;by_cases hx:0≤x
 ·rw [h x hx]
 ·rw [if_neg (fun h=>hx h.1),if_neg (fun h=>hx h.1)]
theorem Hl {t:Int→Nat}{x:Int}(hx:0≤x):gT t x=none↔t x=0:=by
 unfold gT;by_cases h:t x=0<;>simp [h,hx]
theorem Hg {t:Int→Nat}{x:Int}(hx:0≤x) (h:t x≠0):(gT t x).isSome=true:=by
 unfold gT;rw [if_pos ⟨hx,h⟩];rfl
section
variable {E:St}{w w':World}{D:Nat→Nat→Int}{R:Int→Option Nat}{A:Nat→Prop}
theorem Vs.rof (h:Vs E w D R A) {t:Int→Nat}(ht:∀x,0≤x→val R x=t x):R=gT t:=
 abJ ht (fun x hx=>h.neg hx) (fun x e=>by have:=h.small x 0 e;omega)
end
structure VS (E:St) (w:World) (c gc:Nat) (D:Nat→Nat→Int) (A:Nat→Prop) (P:PM) (o:Int→Nat):Prop where
 st:Vs E w D (gT fun f=>sh P f+o f) A
 sp:Sp w c E.b gc P
 ok:lN E.n P
 Bh:QQ P
 mR:¬bO E A c
 iO:¬bO E A gc
 gb:gc≠E.b
 gm:gc≠E.bm
def aW (E:St) (w:World) (c gc:Nat) (A:Nat→Prop) (w':World) (D:Nat→Nat→Int) (P:PM) (o:Int→Nat):Prop:=
 ∃A',VS E w' c gc D A' P o∧Fr (fun i=>bO E A i∨i=gc) w w'∧∀i,i<w.heap.size→A' i→A i
section
variable {E:St}{w w':World}{c gc:Nat}{D:Nat→Nat→Int}{A:Nat→Prop}{P:PM}{o:Int→Nat}
theorem aW.refl (h:VS E w c gc D A P o):aW E w c gc A w D P o:=⟨A,h,Fr.refl _ _,fun _ _ h=>h⟩
theorem aW.trans {w1 w2:World}{A1:Nat→Prop}{D2:Nat→Nat→Int}{P2:PM}(f1:Fr (fun i=>bO E A i∨i=gc) w w1) (s1:∀i,i<w.heap.size→A1 i→A i) (t:aW E w1 c gc A1 w2 D2 P2 o):aW E w c gc A w2 D2 P2 o:=by
 obtain ⟨A',v,f,s⟩:=t
 refine ⟨A',v,f1.trans f (fun i hi ho=>?_),fun i hi ha=>s1 i hi (s i (Nat.lt_of_lt_of_le hi f1.size) ha)⟩
 rcases ho with (ho|ho) | ho
 ·exact .inl (.inl (s1 i hi ho))
 ·exact .inl (.inr ho)
 ·exact .inr ho
theorem VS.keep (h:VS E w c gc D A P o) (hk:∀i,bO E A i→w'.heap[i]? = w.heap[i]?) (hb:w'.heap[E.b]? = w.heap[E.b]?) (hm:w'.heap[E.bm]? = w.heap[E.bm]?) (hc:w'.heap[c]? = w.heap[c]?) (hg:w'.heap[gc]? = w.heap[gc]?):VS E w' c gc D A P o:=
 ⟨h.st.keep hk hb hm,h.sp.keep hc hg,h.ok,h.Bh,h.mR,h.iO,h.gb,h.gm⟩
theorem VS.below (h:VS E w c gc D A P o) (hb:Below w.heap.size w w'):VS E w' c gc D A P o:=
 ⟨h.st.below hb,h.sp.below hb,h.ok,h.Bh,h.mR,h.iO,h.gb,h.gm⟩
theorem VS.drewN (h:VS E w c gc D A P o) (q:Nat):VS E (w.drewN q) c gc D A P o:=h.keep (fun _ _=>rfl) rfl rfl rfl rfl
theorem VS.drew (h:VS E w c gc D A P o):VS E w.drew c gc D A P o:=h.keep (fun _ _=>rfl) rfl rfl rfl rfl
theorem VS.KF (h:VS E w c gc D A P o) {a:Int}(hf:aR P a≠-1):(gT (fun f=>sh P f+o f) (aR P a)).isSome=true∧0≤aR P a∧aR P a<(E.n:Int):=by
 have h0:0≤aR P a∧aR P a<(E.n:Int):=by rcases h.ok.frame a with e|e;exact absurd e hf;exact e
 have:=yU h.ok hf
 exact ⟨Hg h0.1 (by omega),h0⟩
theorem VS.pages (h:VS E w c gc D A P o) {P':PM}(hg:w.grownBy w' (some gc)) (pm:aK w' gc (bX P') (vO P')) (hsh:∀f,0≤f→sh P' f=sh P f) (hok:lN E.n P'):VS E w' c gc D A P' o:=by
 have hk:∀i,i<w.heap.size→i≠gc→w'.heap[i]? = w.heap[i]? := fun i hi hn=>hg.block i hi (fun e=>hn (Option.some.inj e))
 have hR:gT (fun f=>sh P' f+o f)=gT (fun f=>sh P f+o f):=gI (fun x hx=>by rw [hsh x hx])
 refine ⟨by rw [hR];exact h.st.keep (fun i hi=>hk i (h.st.Dm hi) (fun e=>h.iO (e ▸ hi))) (hk _ h.st.blt (fun e=>h.gb e.symm)) (hk _ h.st.mlt (fun e=>h.gm e.symm)),⟨(hk c h.sp.lt h.sp.ne).trans h.sp.head,pm⟩,hok,fun f hf=>by rw [hsh f hf];exact h.Bh f hf,h.mR,h.iO,h.gb,h.gm⟩
def uy (P:PM) (i:Nat):Nat:=sumTo (fun a=>if aR P a=-1 then 0 else 1) 0 i
theorem J3 (P:PM) (i:Nat):uy P (i+1)=uy P i+if aR P i=-1 then 0 else 1:=by unfold uy;rw [pE,Nat.zero_add]
theorem Tn (P:PM) (i:Nat):uy P i≤i:=by
 have:=iy (g:=fun a:Nat=>if aR P a=-1 then 0 else 1) (d:=1) i 0 (fun i=>by split<;>omega)
 unfold uy;omega
theorem Sp.resident {b:Nat}(h:Sp w c b gc P):Calls Tryz.prog 144 #[vp c] w fun e w'=>e=.returned (.int .i64 (gM P:Nat))∧Below w.heap.size w w':=by
 go_enter Tryz.func144,Tryz.ntmps144
 go_wp2_with fail
 go_loopg [3,7] 64 (fun mm s3 s7 wr=>∃i:Nat,i+mm=64∧s7=.int .i64 (i:Int)∧s3=.int .i64 (uy P i:Nat)∧Below w.heap.size w wr)
 case atStart=>exact ⟨0,by omega,rfl,rfl,Below.refl _ _⟩
 case round=>
  obtain ⟨i,hi,rfl,rfl,hb⟩:=hrel
  have hle:=Tn P i
  by_cases hlt:(i:Int)<64
  ·have hF:=find_ok (h.below hb) (i:Int) (fO (by omega) (by omega))
   have hnx:=J3 P i
   have hbl:=hb.size
   have IV:=DN (P:=P) (a:=(i:Int))
   have hfn:=oG (P:=P) (a:=(i:Int))
   generalize (pg P (i:Int)).1=x at *
   generalize (pg P (i:Int)).2=y at *
   generalize hS1:uy P (i+1)=S1 at *
   generalize uy P i=S0 at *
   cases hP:P (i:Int) with
   |none=>
    rw [hP] at hF IV
    rw [hfn hP,if_pos rfl] at hnx
    simp only [Option.isSome_none] at hF
    go_wp2_with (go_at_call 214;refine hF.mono ?_;rintro e w1 ⟨rfl,b1⟩)
    go_roundg (64-(i+1))
    case measure=>omega
    case rel=>
     refine ⟨i+1,by omega,by go_num,by rw [hS1,hnx];rfl,?_⟩
     have b2:=hb.trans (b1.mono hb.size)
     have:=b2.size
     repeat first|exact b2|refine Below.alloc ?_ (by first|omega|(simp<;>omega)) _|refine Below.setCell ?_ (by first|omega|(simp<;>omega)) _
   |some p=>
    rw [hP] at hF IV
    simp only [Option.isSome_some,forall_const] at hF IV
    rw [←IV] at hnx
    by_cases hy:y=-1
    ·rw [if_pos hy] at hnx
     subst hy
     go_wp2_with (go_at_call 214;refine hF.mono ?_;rintro e w1 ⟨rfl,b1⟩)
     go_roundg (64-(i+1))
     case measure=>omega
     case rel=>
      refine ⟨i+1,by omega,by go_num,by rw [hS1,hnx];rfl,?_⟩
      have b2:=hb.trans (b1.mono hb.size)
      have:=b2.size
      repeat first|exact b2|refine Below.alloc ?_ (by first|omega|(simp<;>omega)) _|refine Below.setCell ?_ (by first|omega|(simp<;>omega)) _
    ·rw [if_neg hy] at hnx
     go_wp2_with (go_at_call 214;refine hF.mono ?_;rintro e w1 ⟨rfl,b1⟩)
     go_roundg (64-(i+1))
     case measure=>omega
     case rel=>
      refine ⟨i+1,by omega,by go_num,by rw [hS1,hnx];go_num,?_⟩
      have b2:=hb.trans (b1.mono hb.size)
      have:=b2.size
      repeat first|exact b2|refine Below.alloc ?_ (by first|omega|(simp<;>omega)) _|refine Below.setCell ?_ (by first|omega|(simp<;>omega)) _
  ·have hin:i=64:=by omega
   subst hin
   have hr:gM P=uy P 64:=rfl
   rw [←hr]
   go_wp2_with fail
   go_ret
   exact ⟨rfl,hb⟩
def wd (P:PM) (D:Nat→Nat→Int) (a:Int) (k:Nat):Int:=if aR P a=-1 then 0 else D (aR P a).toNat k
def jf (P:PM) (D:Nat→Nat→Int) (a k:Int):Int:=if dN P a k 1=0 then wd P D a k.toNat else 0
theorem VS.load (h:VS E w c gc D A P o) (a k:Int) (ha:(Lit.int .i64 a).wf=true):Calls Tryz.prog 167 #[vp c,.int .i64 a,.int .i64 k] w fun e w'=>e=.returned (.tuple #[.int .i64 (jf P D a k),sD (dN P a k 1)])∧Below w.heap.size w w':=by
 have hU:=BZ h.sp h.ok a k 1 ha (.inl rfl)
 obtain ⟨V,hV⟩:∃V,jf P D a k=V:=⟨_,rfl⟩
 rw [hV]
 go_enter Tryz.func167,Tryz.ntmps167
 go_wp2_with fail
 refine hU.mono ?_
 rintro e w1 ⟨x,y,rfl,hxy,b1⟩
 have bA:Below w.heap.size w (w1.alloc (.cells #[.int .i64 x,.int .i64 y] 264)):=b1.alloc b1.size _
 by_cases hz:dN P a k 1=0
 ·have hP:=hxy hz
  have hf:=mh hP
  simp only at hf
  rw [jf,if_pos hz] at hV
  have hk:0≤k∧k<8:=by
   apply Classical.byContradiction;intro hk
   unfold dN at hz;rw [hP] at hz;simp only [if_neg hk] at hz;omega
  have hev:sD (dN P a k 1)=.nilIface:=by rw [hz];rfl
  rw [hev]
  have HE:=hide hev
  by_cases hy:y=-1
  ·rw [wd,if_pos (by rw [hf];exact hy)] at hV
   subst hy
   go_wp2_with fail
   go_ret2
   exact ⟨by rw [HE.out,←hV];rfl,bA⟩
  ·rw [wd,if_neg (by rw [hf];exact hy),hf] at hV
   have hfr:0≤y∧y<(E.n:Int):=by rcases h.ok.frame a with e|e<;>rw [hf] at e<;>omega
   have h1:=h.below bA
   have c0:=h1.sp.c0
   have d0:=h1.st.c0
   have hG:∀q,Calls Tryz.prog 242 #[mp E.bm,.int .i64 y,.int .i64 k] ((w1.alloc (.cells #[.int .i64 x,.int .i64 y] 264)).drewN q) fun e w'=>e=.returned (.tuple #[.int .i64 V,.nilIface])∧∃q',w'=((w1.alloc (.cells #[.int .i64 x,.int .i64 y] 264)).drewN q).drewN q':=fun q=>by
    refine (aa4 (h1.drewN q).st.mem y k hfr.1 hfr.2 hk.1 hk.2).mono ?_
    rintro e w' ⟨he,hw⟩
    rw [hV] at he
    exact ⟨he,0,hw⟩
   go_upto_region 4 with fail
   go_quiet (first|(go_at_call 242;exact Calls.quiet_of (hG _)))
   go_wp2_with fail
   go_ret2
   exact ⟨by rw [HE.out];rfl,bA.os,bA.tape,bA.output,bA.size,bA.block⟩
 ·rw [jf,if_neg hz] at hV
  have hev:sD (dN P a k 1)=Lj (dN P a k 1):=by unfold sD;rw [if_neg hz]
  rw [hev]
  have HE:=hide hev
  go_wp2_with fail
  go_ret2
  exact ⟨by rw [HE.out,←hV];rfl,bA⟩
end
section
variable {E:St}{w w':World}{c gc:Nat}{D:Nat→Nat→Int}{A:Nat→Prop}{P:PM}{o:Int→Nat}
theorem VS.gone (h:VS E w c gc D A P o) {a:Int}(ha:(P a).isSome=true) {w1 w2:World}{A1:Nat→Prop}(v1:Vs E w1 D (di (gT fun f=>sh P f+o f) (aR P a)) A1) (f1:Fr (bO E A) w w1) (s1:∀i,i<w.heap.size→A1 i→A i)
 (g2:w1.grownBy w2 (some gc)) {s:Nat}(wX:aK w2 gc s (vO (mV P a))) (hs:s+1=bX P):aW E w c gc A w2 D (mV P a) o:=by
 have hk:=h.ok.key a ha
 have hl:∀i,i<w.heap.size→i<w1.heap.size:=fun i hi=>Nat.lt_of_lt_of_le hi f1.size
 have k2:∀i,i<w1.heap.size→i≠gc→w2.heap[i]? = w1.heap[i]? := fun i hi hn=>g2.block i hi (fun e=>hn (Option.some.inj e))
 have hR:di (gT fun f=>sh P f+o f) (aR P a)=gT fun f=>sh (mV P a) f+o f:=by
  refine v1.rof (fun x hx=>?_)
  have hd:=RI (P:=P) hk.1 hk.2 hx
  rw [C8]
  by_cases e:x=aR P a
  ·rw [if_pos e.symm] at hd
   rw [if_pos e,pq (by rw [←e];exact hx),←e];omega
  ·rw [if_neg (fun h=>e h.symm)] at hd
   rw [if_neg e,pq hx];omega
 rw [hR] at v1
 have hown1:∀i,i<w.heap.size→bO E A1 i→bO E A i:=fun i hi ho=>by
  rcases ho with ho|ho
  ·exact .inl (s1 i hi ho)
  ·exact .inr ho
 have hlen:=zH hk.1 hk.2 ha
 refine ⟨A1,⟨v1.keep (fun i hi=>k2 i (v1.Dm hi) (fun e=>h.iO (hown1 gc h.sp.uk (e ▸ hi)))) (k2 _ v1.blt (fun e=>h.gb e.symm)) (k2 _ v1.mlt (fun e=>h.gm e.symm)),⟨?_,?_⟩,h.ok.del,h.Bh.del hk.1 hk.2,fun ho=>h.mR (hown1 c h.sp.lt ho),fun ho=>h.iO (hown1 gc h.sp.uk ho),h.gb,h.gm⟩,?_,s1⟩
 ·exact ((k2 c (hl c h.sp.lt) h.sp.ne).trans (f1.block c h.sp.lt h.mR)).trans h.sp.head
 ·rw [show bX (mV P a)=s by omega];exact wX
 ·exact (f1.mono (fun i _ h=>.inl h)).trans (Fr.grown g2) (fun i _ e=>.inr e)
theorem VS.remove (h:VS E w c gc D A P o) (a:Int) (ha:(P a).isSome=true):Calls Tryz.prog 226 #[vp c,.int .i64 a] w fun e w'=>e=.returned (.tuple #[])∧aW E w c gc A w' D (mV P a) o:=by
 have hk:=h.ok.key a ha
 have hwf:(Lit.int .i64 a).wf=true:=fO hk.1 (by omega)
 have IV:=DN ha
 have hgt:=El P a
 rw [IV] at hgt
 have hl:(Instr.lookup 163 (.map (some gc)) (.int .i64 a) false).run Tryz.prog w.drew=.ok (.agg #[.int .i64 (pg P a).1,.int .i64 (aR P a)]) w.drew:=by
  rw [←hgt];exact (h.sp.map.keep (w':=w.drew) rfl).look Tryz.underlying163 (wh _) a hwf
 have hD:Calls Tryz.prog 295 #[vp E.b,.int .i64 (aR P a)] w.drew fun e w'=>e=.returned (.tuple #[])∧(∃A1,Vs E w' D (di (gT fun f=>sh P f+o f) (aR P a)) A1∧Fr (bO E A) w w'∧(∀i,i<w.heap.size→A1 i→A i))∧w'.cell? ⟨c,1,none⟩=some (.map (some gc))∧aK w' gc (bX P) (vO P):=by
  have hq:=h.drew
  refine (hq.st.EC (aR P a) ?_).mono ?_
  ·by_cases e:aR P a=-1
   ·exact .inl e
   ·exact .inr (h.KF e).1
  ·rintro e w' ⟨he,A1,v1,f1,s1⟩
   have Bf:Fr (bO E A) w w':=(Fr.drew _ w).trans f1 (fun _ _ h=>h)
   refine ⟨he,⟨A1,v1,Bf,s1⟩,?_,h.sp.map.keep (Bf.block gc h.sp.uk h.iO)⟩
   rw [World.cell?_of_block (w:=w) (a:=⟨c,1,none⟩) (Bf.block c h.sp.lt h.mR)];exact h.sp.c1
 have c0:=h.sp.c0
 have c1:=h.sp.c1
 have hsz:(vO P a).isSome=true:=by rw [mr];exact ha
 have hlp:1≤bX P:=by have:=zH hk.1 hk.2 ha;omega
 have hfin:=fun w1 w2 A1 v1 f1 s1 g2 s wX hs=>h.gone ha (w1:=w1) (w2:=w2) (A1:=A1) v1 f1 s1 g2 (s:=s) wX hs
 have hpd:=WM P a
 have afy:=xE (pg P a).1 (aR P a)
 clear h IV hgt hk ha
 generalize hF:aR P a=f at *
 generalize (pg P a).1=x at *
 go_enter Tryz.func226,Tryz.ntmps226
 go_wp2_with fail
 go_region_with (go_at_call 295;refine hD.mono ?_;rintro e w1 ⟨rfl,⟨A1,v1,f1,s1⟩,c1',yB⟩)
 all_goals
  go_wp2_with (at_delete;refine nE rfl _ _ 163 rfl 264 Tryz.underlying163 gc _ _ rfl yB a rfl hwf ?_;intro w2 wX g2;rw [hpd] at wX)
  go_end0
  exact ⟨rfl,hfin _ _ _ v1 f1 s1 g2 _ wX (by rw [if_pos hsz];omega)⟩
theorem oH {B:Nat→Prop}(hb:Below w.heap.size w w'):Fr B w w':=⟨hb.os,hb.tape,hb.output,hb.size,fun i hi _=>hb.block i hi⟩
theorem aW.below (h:VS E w c gc D A P o) (hb:Below w.heap.size w w'):aW E w c gc A w' D P o:=⟨A,h.below hb,oH hb,fun _ _ h=>h⟩
def fB (P:PM) (a:Int) (i:Nat) (af:Int):PM:=fun x=>if a≤x∧x<a+i then some (af,-1) else P x
def jI (P:PM) (a:Int) (i:Nat):PM:=fun x=>if a≤x∧x<a+i then none else P x
def iM (P:PM) (a:Int) (i:Nat) (af:Int):PM:=fun x=>if a≤x∧x<a+i then (P x).map (fun p=>(af,p.2)) else P x
theorem Aq (P:PM) (a af:Int):fB P a 0 af=P:=by funext x;unfold fB;rw [if_neg (by omega)]
theorem wu (P:PM) (a:Int):jI P a 0=P:=by funext x;unfold jI;rw [if_neg (by omega)]
theorem J8 (P:PM) (a af:Int):iM P a 0 af=P:=by funext x;unfold iM;rw [if_neg (by omega)]
theorem Ar (P:PM) (a:Int) (i:Nat) (af:Int):fB P a (i+1) af=dE (fB P a i af) (a+i) (af,-1):=by
 funext x;unfold fB dE
 by_cases e:x=a+i
 ·rw [if_pos (by omega),if_pos e]
 ·rw [if_neg e];by_cases h:a≤x∧x<a+i
  ·rw [if_pos (by omega)];exact (if_pos h).symm
  ·rw [if_neg (by omega)];exact (if_neg h).symm
theorem wy (P:PM) (a:Int) (i:Nat):jI P a (i+1)=mV (jI P a i) (a+i):=by
 funext x;unfold jI mV
 by_cases e:x=a+i
 ·rw [if_pos (by omega),if_pos e]
 ·rw [if_neg e];by_cases h:a≤x∧x<a+i
  ·rw [if_pos (by omega)];exact (if_pos h).symm
  ·rw [if_neg (by omega)];exact (if_neg h).symm
theorem J9 {P:PM}{a:Int}{i:Nat}{af:Int}(h:(P (a+i)).isSome=true):iM P a (i+1) af=dE (iM P a i af) (a+i) (af,aR P (a+i)):=by
 funext x;unfold iM dE
 by_cases e:x=a+i
 ·rw [if_pos (by omega),if_pos e,e,WN h,←DN h];rfl
 ·rw [if_neg e];by_cases h:a≤x∧x<a+i
  ·rw [if_pos (by omega)];exact (if_pos h).symm
  ·rw [if_neg (by omega)];exact (if_neg h).symm
theorem Gz (P:PM) (a:Int) (i:Nat) (af:Int):fB P a i af (a+i)=P (a+i):=by unfold fB;rw [if_neg (by omega)]
theorem LQ (P:PM) (a:Int) (i:Nat):jI P a i (a+i)=P (a+i):=by unfold jI;rw [if_neg (by omega)]
theorem Gp (P:PM) (a:Int) (i:Nat) (af:Int):iM P a i af (a+i)=P (a+i):=by unfold iM;rw [if_neg (by omega)]
def iW (P:PM) (a n af:Int):Int:=if Bl a n=false then 2 else if Vv af=false then 1 else if iP P a n.toNat=0 then 0 else 9
def ui (P:PM) (a n:Int):Int:=if Bl a n=false then 2 else if iP P a n.toNat<n.toNat then 7 else 0
def mQ (P:PM) (a n af:Int):Int:=if Bl a n=false then 2 else if Vv af=false then 1 else if iP P a n.toNat<n.toNat then 7 else 0
def jJ (P:PM) (a n af:Int):PM:=if iW P a n af=0 then fB P a n.toNat af else P
def Bc (P:PM) (a n:Int):PM:=if ui P a n=0 then jI P a n.toNat else P
def nR (P:PM) (a n af:Int):PM:=if mQ P a n af=0 then iM P a n.toNat af else P
theorem VS.Gn (h:VS E w c gc D A P o) {x:Int}{p:Int×Int}(hx0:0≤x) (hx1:x<64) (hp:1≤p.1∧p.1≤3) (hf:p.2=aR P x) (hg:w.grownBy w' (some gc)) (pm:aK w' gc (if (vO P x).isSome then bX P else bX P+1) (vO (dE P x p))):VS E w' c gc D A (dE P x p) o:=by
 refine h.pages hg ?_ (fun f hf'=>?_) (h.ok.put hx0 hx1 hp (by rw [hf];exact h.ok.frame x))
 ·rw [mr] at pm
  cases e:P x with
  |none=>rw [e] at pm;rw [vG hx0 hx1 e];exact pm
  |some q=>rw [e] at pm;rw [pM (by rw [e];rfl)];exact pm
 ·have:=yT (P:=P) hx0 hx1 p f
  rw [hf] at this;omega
theorem VS.map_ok (h:VS E w c gc D A P o) (a n af:Int) (hn:n≤9223372036854775807):Calls Tryz.prog 169 #[vp c,.int .i64 a,.int .i64 n,.int .i64 af] w fun e w'=>e=.returned (sD (iW P a n af))∧aW E w c gc A w' D (jJ P a n af) o:=by
 have hA:=qU w a n hn
 have hU:=CQ w af
 obtain ⟨V,hV⟩:∃V,sD (iW P a n af)=V:=⟨_,rfl⟩
 obtain ⟨P2,hP2⟩:∃P2,jJ P a n af=P2:=⟨_,rfl⟩
 rw [hV,hP2]
 cases ha:Bl a n with
 |false=>
  have e0:iW P a n af=2:=by unfold iW;rw [if_pos ha]
  rw [jJ,if_neg (by rw [e0];decide)] at hP2
  rw [e0] at hV
  rw [ha] at hA
  clear e0 hU ha
  subst hP2
  subst hV
  have ht:=aW.refl h
  clear h
  go_enter Tryz.func169,Tryz.ntmps169
  go_wp2_with (go_at_call 243;refine hA.mono ?_;rintro e w1 ⟨rfl,h1⟩;subst w1)
  go_ret
  exact ⟨rfl,ht⟩
 |true=>
  cases hu:Vv af with
  |false=>
   have e0:iW P a n af=1:=by unfold iW;rw [if_neg (by rw [ha];decide),if_pos hu]
   rw [jJ,if_neg (by rw [e0];decide)] at hP2
   rw [e0] at hV
   rw [ha] at hA
   rw [hu] at hU
   clear e0 ha hu
   subst hP2
   subst hV
   have ht:=aW.refl h
   clear h
   go_enter Tryz.func169,Tryz.ntmps169
   go_wp2_with (first
    |(go_at_call 243;refine hA.mono ?_;rintro e w1 ⟨rfl,h1⟩;subst w1)
    |(go_at_call 244;refine hU.mono ?_;rintro e w1 ⟨rfl,h1⟩;subst w1))
   go_ret
   exact ⟨rfl,ht⟩
  |true=>
   obtain ⟨hn1,ha0,Li⟩:=lK.1 ha
   obtain ⟨k,rfl⟩:∃k:Nat,n=(k:Int):=⟨n.toNat,by omega⟩
   have hC:=h.sp.count a k ha0 Li
   have hq:=fun w=>run_eql_map_nil_sl (P:=Tryz.prog) w 163 _ _ (some gc) Tryz.underlying163
   have c1:=h.sp.c1
   have hpr:=GM.1 hu
   rw [ha] at hA
   rw [hu] at hU
   by_cases hz:iP P a k=0
   ·have e0:iW P a (k:Int) af=0:=by unfold iW;rw [if_neg (by rw [ha];decide),if_neg (by rw [hu];decide),Int.toNat_natCast,if_pos hz]
    rw [jJ,if_pos e0,Int.toNat_natCast] at hP2
    rw [e0] at hV
    have hnone:=rJ hz
    rw [hz] at hC
    subst hP2
    subst hV
    clear e0 hz ha hu
    go_enter Tryz.func169,Tryz.ntmps169
    go_wp2_with (first
     |(go_at_call 243;refine hA.mono ?_;rintro e w1 ⟨rfl,h1⟩;subst w1)
     |(go_at_call 244;refine hU.mono ?_;rintro e w1 ⟨rfl,h1⟩;subst w1)
     |(go_at_call 245;refine hC.mono ?_;rintro e w1 ⟨rfl,b1⟩))
    clear hA hU hC hq c1
    go_loopg [36] k (fun mm s36 wr=>∃i:Nat,i+mm=k∧s36=.int .i64 (i:Int)∧aW E w c gc A wr D (fB P a i af) o)
    case atStart=>exact ⟨0,by omega,rfl,by rw [Aq];exact aW.below h b1⟩
    case round=>
     obtain ⟨i,hi,rfl,A1,v1,f1,s1⟩:=hrel
     by_cases hlt:(i:Int)<(k:Int)
     ·have c1:=v1.sp.c1
      have hmp:=v1.sp.map
      have hsz:bX (fB P a i af)<maxLen:=by have:=ry (fB P a i af);unfold maxLen;omega
      have hwf:(Lit.int .i64 (a+i)).wf=true:=fO (by omega) (by omega)
      have hpp:=Ej (fB P a i af) (a+i) af (-1)
      have hfr:aR (fB P a i af) (a+i)=-1:=oG (by rw [Gz];exact hnone i (by omega))
      go_wp2_with (at_mapUpdate;refine ik rfl _ _ _ 163 rfl 264 Tryz.underlying163 gc _ _ rfl hmp hsz (a+i) rfl hwf (.agg #[.int .i64 af,.int .i64 (-1)]) rfl ?_;intro w2 wX g2;rw [hpp] at wX)
      go_roundg (k-(i+1))
      case measure=>omega
      case rel=>
       refine ⟨i+1,by omega,by go_num,?_⟩
       rw [Ar]
       exact aW.trans f1 s1 ⟨A1,v1.Gn (by omega) (by omega) hpr hfr.symm g2 wX,(Fr.grown g2).mono (fun i _ e=>.inr e),fun _ _ h=>h⟩
     ·have hik:i=k:=by omega
      subst hik
      go_wp2_with fail
      go_ret
      exact ⟨rfl,A1,v1,f1,s1⟩
   ·have e0:iW P a (k:Int) af=9:=by unfold iW;rw [if_neg (by rw [ha];decide),if_neg (by rw [hu];decide),Int.toNat_natCast,if_neg hz]
    rw [jJ,if_neg (by rw [e0];decide)] at hP2
    rw [e0] at hV
    subst hP2
    subst hV
    clear e0 ha hu
    have hgt:(0:Int)<((iP P a k:Nat):Int):=by omega
    generalize iP P a k=hh at *
    go_enter Tryz.func169,Tryz.ntmps169
    go_wp2_with (first
     |(go_at_call 243;refine hA.mono ?_;rintro e w1 ⟨rfl,h1⟩;subst w1)
     |(go_at_call 244;refine hU.mono ?_;rintro e w1 ⟨rfl,h1⟩;subst w1)
     |(go_at_call 245;refine hC.mono ?_;rintro e w1 ⟨rfl,b1⟩))
    go_ret
    exact ⟨rfl,aW.below h b1⟩
theorem VS.SC (h:VS E w c gc D A P o) (a n:Int) (hn:n≤9223372036854775807):Calls Tryz.prog 171 #[vp c,.int .i64 a,.int .i64 n] w fun e w'=>e=.returned (sD (ui P a n))∧aW E w c gc A w' D (Bc P a n) o:=by
 have hA:=qU w a n hn
 obtain ⟨V,hV⟩:∃V,sD (ui P a n)=V:=⟨_,rfl⟩
 obtain ⟨P2,hP2⟩:∃P2,Bc P a n=P2:=⟨_,rfl⟩
 rw [hV,hP2]
 cases ha:Bl a n with
 |false=>
  have e0:ui P a n=2:=by unfold ui;rw [if_pos ha]
  rw [Bc,if_neg (by rw [e0];decide)] at hP2
  rw [e0] at hV
  rw [ha] at hA
  clear e0 ha
  subst hP2
  subst hV
  have ht:=aW.refl h
  clear h
  go_enter Tryz.func171,Tryz.ntmps171
  go_wp2_with (go_at_call 243;refine hA.mono ?_;rintro e w1 ⟨rfl,h1⟩;subst w1)
  go_ret
  exact ⟨rfl,ht⟩
 |true=>
  obtain ⟨hn1,ha0,Li⟩:=lK.1 ha
  obtain ⟨k,rfl⟩:∃k:Nat,n=(k:Int):=⟨n.toNat,by omega⟩
  have hC:=h.sp.count a k ha0 Li
  rw [ha] at hA
  by_cases hz:iP P a k<k
  ·have e0:ui P a (k:Int)=7:=by unfold ui;rw [if_neg (by rw [ha];decide),Int.toNat_natCast,if_pos hz]
   rw [Bc,if_neg (by rw [e0];decide)] at hP2
   rw [e0] at hV
   subst hP2
   subst hV
   clear e0 ha
   have hgt:((iP P a k:Nat):Int)<(k:Int):=by omega
   generalize iP P a k=hh at *
   go_enter Tryz.func171,Tryz.ntmps171
   go_wp2_with (first
    |(go_at_call 243;refine hA.mono ?_;rintro e w1 ⟨rfl,h1⟩;subst w1)
    |(go_at_call 245;refine hC.mono ?_;rintro e w1 ⟨rfl,b1⟩))
   go_ret
   exact ⟨rfl,aW.below h b1⟩
  ·have e0:ui P a (k:Int)=0:=by unfold ui;rw [if_neg (by rw [ha];decide),Int.toNat_natCast,if_neg hz]
   rw [Bc,if_pos e0,Int.toNat_natCast] at hP2
   rw [e0] at hV
   have hall:=u7 hz
   subst hP2
   subst hV
   clear e0 ha
   have hgt:¬((iP P a k:Nat):Int)<(k:Int):=by omega
   generalize iP P a k=hh at *
   go_enter Tryz.func171,Tryz.ntmps171
   go_wp2_with (first
    |(go_at_call 243;refine hA.mono ?_;rintro e w1 ⟨rfl,h1⟩;subst w1)
    |(go_at_call 245;refine hC.mono ?_;rintro e w1 ⟨rfl,b1⟩))
   clear hA hC hz hgt
   go_loopg [21] k (fun mm s21 wr=>∃i:Nat,i+mm=k∧s21=.int .i64 (i:Int)∧aW E w c gc A wr D (jI P a i) o)
   case atStart=>exact ⟨0,by omega,rfl,by rw [wu];exact aW.below h b1⟩
   case round=>
    obtain ⟨i,hi,rfl,A1,v1,f1,s1⟩:=hrel
    by_cases hlt:(i:Int)<(k:Int)
    ·have hR:=v1.remove (a+i) (by rw [LQ];exact hall i (by omega))
     rw [←wy] at hR
     go_wp2_with (go_at_call 226;refine hR.mono ?_;rintro e w2 ⟨rfl,t2⟩)
     go_roundg (k-(i+1))
     case measure=>omega
     case rel=>exact ⟨i+1,by omega,by go_num,aW.trans f1 s1 t2⟩
    ·have hik:i=k:=by omega
     subst hik
     go_wp2_with fail
     go_ret
     exact ⟨rfl,A1,v1,f1,s1⟩
theorem VS.J7 (h:VS E w c gc D A P o) (a n af:Int) (hn:n≤9223372036854775807):Calls Tryz.prog 178 #[vp c,.int .i64 a,.int .i64 n,.int .i64 af] w fun e w'=>e=.returned (sD (mQ P a n af))∧aW E w c gc A w' D (nR P a n af) o:=by
 have hA:=qU w a n hn
 have hU:=CQ w af
 obtain ⟨V,hV⟩:∃V,sD (mQ P a n af)=V:=⟨_,rfl⟩
 obtain ⟨P2,hP2⟩:∃P2,nR P a n af=P2:=⟨_,rfl⟩
 rw [hV,hP2]
 cases ha:Bl a n with
 |false=>
  have e0:mQ P a n af=2:=by unfold mQ;rw [if_pos ha]
  rw [nR,if_neg (by rw [e0];decide)] at hP2
  rw [e0] at hV
  rw [ha] at hA
  clear e0 hU ha
  subst hP2
  subst hV
  have ht:=aW.refl h
  clear h
  go_enter Tryz.func178,Tryz.ntmps178
  go_wp2_with (go_at_call 243;refine hA.mono ?_;rintro e w1 ⟨rfl,h1⟩;subst w1)
  go_ret
  exact ⟨rfl,ht⟩
 |true=>
  cases hu:Vv af with
  |false=>
   have e0:mQ P a n af=1:=by unfold mQ;rw [if_neg (by rw [ha];decide),if_pos hu]
   rw [nR,if_neg (by rw [e0];decide)] at hP2
   rw [e0] at hV
   rw [ha] at hA
   rw [hu] at hU
   clear e0 ha hu
   subst hP2
   subst hV
   have ht:=aW.refl h
   clear h
   go_enter Tryz.func178,Tryz.ntmps178
   go_wp2_with (first
    |(go_at_call 243;refine hA.mono ?_;rintro e w1 ⟨rfl,h1⟩;subst w1)
    |(go_at_call 244;refine hU.mono ?_;rintro e w1 ⟨rfl,h1⟩;subst w1))
   go_ret
   exact ⟨rfl,ht⟩
  |true=>
   obtain ⟨hn1,ha0,Li⟩:=lK.1 ha
   obtain ⟨k,rfl⟩:∃k:Nat,n=(k:Int):=⟨n.toNat,by omega⟩
   have hC:=h.sp.count a k ha0 Li
   have hpr:=GM.1 hu
   rw [ha] at hA
   rw [hu] at hU
   by_cases hz:iP P a k<k
   ·have e0:mQ P a (k:Int) af=7:=by unfold mQ;rw [if_neg (by rw [ha];decide),if_neg (by rw [hu];decide),Int.toNat_natCast,if_pos hz]
    rw [nR,if_neg (by rw [e0];decide)] at hP2
    rw [e0] at hV
    subst hP2
    subst hV
    clear e0 ha hu
    have hgt:((iP P a k:Nat):Int)<(k:Int):=by omega
    generalize iP P a k=hh at *
    go_enter Tryz.func178,Tryz.ntmps178
    go_wp2_with (first
     |(go_at_call 243;refine hA.mono ?_;rintro e w1 ⟨rfl,h1⟩;subst w1)
     |(go_at_call 244;refine hU.mono ?_;rintro e w1 ⟨rfl,h1⟩;subst w1)
     |(go_at_call 245;refine hC.mono ?_;rintro e w1 ⟨rfl,b1⟩))
    go_ret
    exact ⟨rfl,aW.below h b1⟩
   ·have e0:mQ P a (k:Int) af=0:=by unfold mQ;rw [if_neg (by rw [ha];decide),if_neg (by rw [hu];decide),Int.toNat_natCast,if_neg hz]
    rw [nR,if_pos e0,Int.toNat_natCast] at hP2
    rw [e0] at hV
    have hall:=u7 hz
    subst hP2
    subst hV
    clear e0 ha hu
    have hgt:¬((iP P a k:Nat):Int)<(k:Int):=by omega
    generalize iP P a k=hh at *
    go_enter Tryz.func178,Tryz.ntmps178
    go_wp2_with (first
     |(go_at_call 243;refine hA.mono ?_;rintro e w1 ⟨rfl,h1⟩;subst w1)
     |(go_at_call 244;refine hU.mono ?_;rintro e w1 ⟨rfl,h1⟩;subst w1)
     |(go_at_call 245;refine hC.mono ?_;rintro e w1 ⟨rfl,b1⟩))
    clear hA hU hC hz hgt
    go_loopg [27] k (fun mm s27 wr=>∃i:Nat,i+mm=k∧s27=.int .i64 (i:Int)∧aW E w c gc A wr D (iM P a i af) o)
    case atStart=>exact ⟨0,by omega,rfl,by rw [J8];exact aW.below h b1⟩
    case round=>
     obtain ⟨i,hi,rfl,A1,v1,f1,s1⟩:=hrel
     by_cases hlt:(i:Int)<(k:Int)
     ·have c1:=v1.sp.c1
      have hmp:=v1.sp.map
      have hsz:bX (iM P a i af)<maxLen:=by have:=ry (iM P a i af);unfold maxLen;omega
      have hwf:(Lit.int .i64 (a+i)).wf=true:=fO (by omega) (by omega)
      have hi':=hall i (by omega)
      have hia:(iM P a i af (a+i)).isSome=true:=by rw [Gp];exact hi'
      have hfe:aR (iM P a i af) (a+i)=aR P (a+i):=by unfold aR;rw [Gp]
      have hgt:=El (iM P a i af) (a+i)
      rw [DN hia,hfe] at hgt
      have hl:(Instr.lookup 163 (.map (some gc)) (.int .i64 (a+i)) false).run Tryz.prog wr.drew=.ok (.agg #[.int .i64 (pg (iM P a i af) (a+i)).1,.int .i64 (aR P (a+i))]) wr.drew:=by
       rw [←hgt];exact (hmp.keep (w':=wr.drew) rfl).look Tryz.underlying163 (wh _) (a+i) hwf
      obtain ⟨w2,hrun,wX,g2⟩:=(hmp.keep (w':=wr.drew) rfl).put Tryz.underlying163 hsz (a+i) hwf (.agg #[.int .i64 af,.int .i64 (aR P (a+i))])
      rw [Ej] at wX
      have hg2:wr.grownBy w2 (some gc):=⟨g2.os,g2.tape,g2.output,g2.size,g2.block⟩
      have afy:=xE (pg (iM P a i af) (a+i)).1 (aR P (a+i))
      have hfin:aW E w c gc A w2 D (iM P a (i+1) af) o:=by
       rw [J9 hi']
       exact aW.trans f1 s1 ⟨A1,v1.Gn (by omega) (by omega) hpr hfe.symm hg2 wX,(Fr.grown hg2).mono (fun i _ e=>.inr e),fun _ _ h=>h⟩
      clear v1 f1 s1 h hmp wX g2 hg2 hgt hfe hia hi' hall
      generalize (pg (iM P a i af) (a+i)).1=x at *
      generalize aR P (a+i)=y at *
      go_wp2_with fail
      go_region
      go_wp2_with fail
      go_roundg (k-(i+1))
      case measure=>omega
      case rel=>exact ⟨i+1,by omega,by go_num,hfin⟩
     ·have hik:i=k:=by omega
      subst hik
      go_wp2_with fail
      go_ret
      exact ⟨rfl,A1,v1,f1,s1⟩
theorem SE (h:lN E.n P):jI P 0 64=fun _=>none:=by
 funext x;unfold jI;split
 ·rfl
 ·rename_i hx
  cases e:P x with
  |none=>rfl
  |some p=>have:=h.key x (by rw [e];rfl);omega
theorem VS.zN (h:VS E w c gc D A P o):Calls Tryz.prog 158 #[vp c] w fun e w'=>e=.returned (.tuple #[])∧aW E w c gc A w' D (fun _=>none) o:=by
 have hend:=SE h.ok
 go_enter Tryz.func158,Tryz.ntmps158
 go_wp2_with fail
 go_loopg [5] 64 (fun mm s5 wr=>∃i:Nat,i+mm=64∧s5=.int .i64 (i:Int)∧aW E w c gc A wr D (jI P 0 i) o)
 case atStart=>exact ⟨0,by omega,rfl,by rw [wu];exact aW.refl h⟩
 case round=>
  clear h
  obtain ⟨i,hi,rfl,A1,v1,f1,s1⟩:=hrel
  by_cases hlt:(i:Int)<64
  ·have hF:=find_ok v1.sp (i:Int) (fO (by omega) (by omega))
   have hnx:=wy P 0 i
   rw [Int.zero_add] at hnx
   generalize (pg (jI P 0 i) (i:Int)).1=x at *
   generalize (pg (jI P 0 i) (i:Int)).2=y at *
   cases hP:(jI P 0 i (i:Int)).isSome with
   |true=>
    rw [hP] at hF
    have hR:∀w1,Below wr.heap.size wr w1→Calls Tryz.prog 226 #[vp c,.int .i64 (i:Int)] w1 fun e w'=>e=.returned (.tuple #[])∧aW E w c gc A w' D (jI P 0 (i+1)) o:=fun w1 b1=>by
     refine ((v1.below b1).remove (i:Int) hP).mono ?_
     rintro e w' ⟨he,t⟩
     rw [←hnx] at t
     exact ⟨he,aW.trans f1 s1 (aW.trans (oH b1) (fun _ _ h=>h) t)⟩
    clear hP hnx v1 f1 s1
    go_wp2_with (first
     |(go_at_call 214;refine hF.mono ?_;rintro e w1 ⟨rfl,b1⟩)
     |(go_at_call 226;refine (hR _ (Below.alloc b1 b1.size _)).mono ?_;rintro e w2 ⟨rfl,t2⟩))
    go_roundg (64-(i+1))
    case measure=>omega
    case rel=>exact ⟨i+1,by omega,by go_num,t2⟩
   |false=>
    rw [hP] at hF
    have hd:mV (jI P 0 i) (i:Int)=jI P 0 i:=by
     funext z;unfold mV;split
     ·rename_i e;rw [e];cases e':jI P 0 i (i:Int) with
      |none=>rfl
      |some p=>rw [e'] at hP;cases hP
     ·rfl
    have ht:∀w1,Below wr.heap.size wr w1→aW E w c gc A w1 D (jI P 0 (i+1)) o:=fun w1 b1=>by
     rw [hnx,hd];exact aW.trans f1 s1 (aW.below v1 b1)
    clear hP hnx v1 f1 s1 hd
    go_wp2_with (go_at_call 214;refine hF.mono ?_;rintro e w1 ⟨rfl,b1⟩)
    go_roundg (64-(i+1))
    case measure=>omega
    case rel=>exact ⟨i+1,by omega,by go_num,ht _ (Below.alloc b1 b1.size _)⟩
  ·have hik:i=64:=by omega
   subst hik
   rw [hend] at v1
   go_wp2_with fail
   go_end0
   exact ⟨rfl,A1,v1,f1,s1⟩
end
section
variable {E:St}{w w':World}{c gc:Nat}{D:Nat→Nat→Int}{A:Nat→Prop}{P:PM}{o:Int→Nat}
def used (t:Int→Nat) (n:Nat):Nat:=num (gT t) n
theorem RX {R:Int→Option Nat}{n k:Nat}(hk:k<n) (h:R (k:Int)=none):num R n<n:=by
 have h1:=Ik (m:=1) hk h
 have h2:=vU (jq R (k:Int) 1) n
 omega
theorem Vs.words {R:Int→Option Nat}(h:Vs E w D R A) {D':Nat→Nat→Int}(hg:w.grownBy w' (some E.sm)) (m:Mem w' E.bm E.sm E.n D'):Vs E w' D' R A:=by
 have hk:∀i,i<w.heap.size→i≠E.sm→w'.heap[i]? = w.heap[i]? := fun i hi hn=>hg.block i hi (fun e=>hn (Option.some.inj e))
 obtain ⟨U,T,a,s⟩:=h.pool
 exact ⟨(hk _ h.blt h.Vr).trans h.head,m,⟨U,T,a.keep' (fun i hi=>hk i (a.lt' hi) (fun e=>h.Dv (e ▸ hi))),s⟩,h.map.keep (hk _ h.uk (fun e=>h.Vh e.symm)),h.small,h.Dw,h.FB,h.Dv,h.iO,h.Vr,h.Nh,h.Vq,h.Vh,h.n1⟩
theorem VS.words (h:VS E w c gc D A P o) {D':Nat→Nat→Int}(hg:w.grownBy w' (some E.sm)) (m:Mem w' E.bm E.sm E.n D'):VS E w' c gc D' A P o:=by
 have hk:∀i,i<w.heap.size→i≠E.sm→w'.heap[i]? = w.heap[i]? := fun i hi hn=>hg.block i hi (fun e=>hn (Option.some.inj e))
 exact ⟨h.st.words hg m,h.sp.keep (hk c h.sp.lt (fun e=>h.mR (.inr (.inl e)))) (hk gc h.sp.uk (fun e=>h.iO (.inr (.inl e)))),h.ok,h.Bh,h.mR,h.iO,h.gb,h.gm⟩
theorem VS.stored (h:VS E w c gc D A P o) {a x y:Int}(hP:P a=some (x,y)) {k:Nat}(hk:k<E.n) (hk0:sh P (k:Int)+o (k:Int)=0) {i0:Nat}(hi:¬bO E A i0) (hic:i0≠c) (_hig:i0≠gc) (hib:i0≠E.b) (him:i0≠E.bm) (hil:i0<w.heap.size)
 {w2 w3 w4 w5:World}{A2:Nat→Prop}{D2 D5:Nat→Nat→Int}(v2:Vs E w2 D2 (jq (di (gT fun f=>sh P f+o f) y) (k:Int) 1) A2) (f2:Fr (bO E A) w w2) (s2:∀i,i<w.heap.size→A2 i→A i)
 (f3:Fr (·=i0) w2 w3) (g4:w3.grownBy w4 (some gc)) (Qy:aK w4 gc (if (vO P a).isSome then bX P else bX P+1) (vO (dE P a (x,(k:Int)))))
 (g5:w4.grownBy w5 (some E.sm)) (m5:Mem w5 E.bm E.sm E.n D5) :
 ∃A',VS E w5 c gc D5 A' (dE P a (x,(k:Int))) o∧Fr (fun i=>(bO E A i∨i=gc)∨i=i0) w w5∧∀i,i<w.heap.size→A' i→A i:=by
 have hsome:(P a).isSome=true:=by rw [hP];rfl
 have hka:=h.ok.key a hsome
 have hpr:=h.ok.af a _ hP
 have hfr:aR P a=y:=mh hP
 have hown2:∀i,i<w.heap.size→bO E A2 i→bO E A i:=fun i hi ho=>by
  rcases ho with ho|ho
  ·exact .inl (s2 i hi ho)
  ·exact .inr ho
 have l2:∀i,i<w.heap.size→i<w2.heap.size:=fun i hi=>Nat.lt_of_lt_of_le hi f2.size
 have l3:∀i,i<w2.heap.size→i<w3.heap.size:=fun i hi=>Nat.lt_of_lt_of_le hi f3.size
 have k4:∀i,i<w2.heap.size→i≠i0→i≠gc→w4.heap[i]? = w2.heap[i]? := fun i hi h1 h2=>(g4.block i (l3 i hi) (fun e=>h2 (Option.some.inj e))).trans (f3.block i hi h1)
 have hR:jq (di (gT fun f=>sh P f+o f) y) (k:Int) 1=gT fun f=>sh (dE P a (x,(k:Int))) f+o f:=by
  refine v2.rof (fun z hz=>?_)
  have hs:=yT (P:=P) hka.1 hka.2 (x,(k:Int)) z
  simp only at hs
  rw [LK]
  by_cases e:z=(k:Int)
  ·subst e
   rw [if_pos rfl]
   have:¬aR P a=(k:Int):=Wp (by omega) h.ok (by omega) a
   rw [if_neg this,if_pos rfl] at hs
   omega
  ·rw [if_neg e,C8]
   have q1:(if (k:Int)=z then 1 else 0)=0:=if_neg (fun h=>e h.symm)
   rw [q1] at hs
   by_cases e':z=y
   ·rw [if_pos (by rw [hfr,e'])] at hs
    rw [if_pos e',pq (by rw [←e'];exact hz),←e'];omega
   ·rw [if_neg (by rw [hfr];exact fun h=>e' h.symm)] at hs
    rw [if_neg e',pq hz];omega
 rw [hR] at v2
 have v4:Vs E w4 D2 (gT fun f=>sh (dE P a (x,(k:Int))) f+o f) A2:=by
  refine v2.keep (fun i hi'=>k4 i (v2.Dm hi') (fun e=>hi (hown2 i0 hil (e ▸ hi'))) (fun e=>h.iO (hown2 gc h.sp.uk (e ▸ hi')))) (k4 _ v2.blt (fun e=>hib e.symm) (fun e=>h.gb e.symm)) (k4 _ v2.mlt (fun e=>him e.symm) (fun e=>h.gm e.symm))
 have ajN:gc≠E.sm:=fun e=>h.iO (.inr (.inl e))
 have sp4:Sp w4 c E.b gc (dE P a (x,(k:Int))):=by
  refine ⟨((k4 c (l2 c h.sp.lt) (fun e=>hic e.symm) h.sp.ne).trans (f2.block c h.sp.lt h.mR)).trans h.sp.head,?_⟩
  rw [pM hsome]
  rw [mr,if_pos hsome] at Qy
  exact Qy
 have V4:VS E w4 c gc D2 A2 (dE P a (x,(k:Int))) o:=
  ⟨v4,sp4,h.ok.put hka.1 hka.2 hpr (.inr ⟨by show (0:Int)≤(k:Int);omega,by show (k:Int)<(E.n:Int);omega⟩),h.Bh.put hka.1 hka.2 (.inr (.inl (by show sh P (k:Int)=0;omega))),fun ho=>h.mR (hown2 c h.sp.lt ho),fun ho=>h.iO (hown2 gc h.sp.uk ho),h.gb,h.gm⟩
 refine ⟨A2,V4.words g5 m5,?_,s2⟩
 exact (((f2.mono (fun i _ h=>.inl (.inl h))).trans f3 (fun i _ e=>.inr e)).trans (Fr.grown g4) (fun i _ e=>.inl (.inr e))).trans (Fr.grown g5) (fun i _ e=>.inl (.inl (.inr (.inl e))))
def uo (n:Nat) (P:PM) (o:Int→Nat) (D:Nat→Nat→Int) (a k v:Int) (er:Int) (P':PM) (D':Nat→Nat→Int):Prop:=
 (dN P a k 2≠0∧er=dN P a k 2∧P'=P∧D'=D)∨
 (dN P a k 2=0∧aR P a≠-1∧sh P (aR P a)+o (aR P a)=1∧er=0∧P'=P∧D'=upd D (aR P a).toNat k.toNat v)∨
 (dN P a k 2=0∧(aR P a=-1∨1<sh P (aR P a)+o (aR P a))∧used (fun f=>sh P f+o f) n=n∧er=12∧P'=P∧D'=D)∨
 (dN P a k 2=0∧(aR P a=-1∨1<sh P (aR P a)+o (aR P a))∧∃f:Nat,f<n∧sh P (f:Int)+o (f:Int)=0∧er=0∧P'=dE P a ((pg P a).1,(f:Int))∧D'=upd (row D f (fq D (aR P a))) f k.toNat v)
theorem VS.SV (h:VS E w c gc D A P o) (a k v:Int) (ha:(Lit.int .i64 a).wf=true) :
 Calls Tryz.prog 182 #[vp c,.int .i64 a,.int .i64 k,.int .i64 v] w fun e w'=>∃er P' D',uo E.n P o D a k v er P' D'∧e=.returned (sD er)∧aW E w c gc A w' D' P' o:=by
 have hU:=BZ h.sp h.ok a k 2 ha (.inr rfl)
 go_enter Tryz.func182,Tryz.ntmps182
 go_wp2_with fail
 refine hU.mono ?_
 rintro e w1 ⟨x,y,rfl,hxy,b1⟩
 clear hU
 have bA:Below w.heap.size w (w1.alloc (.cells #[.int .i64 x,.int .i64 y] 264)):=b1.alloc b1.size _
 by_cases hz:dN P a k 2=0
 ·have hP:=hxy hz
  have hf:aR P a=y:=mh hP
  have hk:0≤k∧k<8:=by
   apply Classical.byContradiction;intro hk
   unfold dN at hz;rw [hP] at hz;simp only [if_neg hk] at hz;omega
  have hev:sD (dN P a k 2)=.nilIface:=by rw [hz];rfl
  rw [hev]
  have acG:(pg P a).1=x:=by unfold pg;rw [hP];rfl
  have h1:=h.below bA
  have hn1:=qI w1 (.cells #[.int .i64 x,.int .i64 y] 264)
  obtain ⟨W,hW⟩:∃W,w1.alloc (.cells #[.int .i64 x,.int .i64 y] 264)=W:=⟨_,rfl⟩
  obtain ⟨i0,hi0⟩:∃i0,w1.heap.size=i0:=⟨_,rfl⟩
  have hW0:w.heap.size≤i0:=by rw [←hi0];exact b1.size
  rw [hW] at bA h1 hn1
  rw [hi0] at hn1
  have hil:i0<W.heap.size:=lt_of_heap hn1
  obtain ⟨p0,p1,pf0,pf1⟩:=mD hn1
  have c0:=h1.sp.c0
  have c1:=h1.sp.c1
  have d0:=h1.st.c0
  have hwt:∀ {V:World}{P':PM}{D':Nat→Nat→Int},aW E W c gc A V D' P' o→aW E w c gc A V D' P' o:=fun t=>aW.trans (oH bA) (fun _ _ h=>h) t
  have hval:y≠-1→val (gT fun f=>sh P f+o f) y=sh P y+o y:=fun hy=>pq (by rcases h.ok.frame a with e|e<;>rw [hf] at e<;>omega)
  have hpos:y≠-1→1≤sh P y+o y:=fun hy=>by
   have:=yU (a:=a) h.ok (by rw [hf];exact hy)
   rw [hf] at this;omega
  have hyw:(Lit.int .i64 y).wf=true:=by
   rcases h.ok.frame a with e|e<;>rw [hf] at e
   ·subst e;kernel_rfl
   ·have:=h.st.n256;exact fO (by omega) (by omega)
  by_cases hown:y≠-1∧sh P y+o y=1
  ·have hIs:∀q,Calls Tryz.prog 260 #[vp E.b,.int .i64 y] (W.drewN q) fun e w'=>e=.returned (.bool true)∧∃q',w'=(W.drewN q).drewN q':=fun q=>by
    refine ((h1.drewN q).st.Zd y hyw).mono ?_
    rintro e w' ⟨he,hw⟩
    rw [hval hown.1,hown.2] at he
    exact ⟨he,0,hw⟩
   have hfr:0≤y∧y<(E.n:Int):=by rcases h.ok.frame a with e|e<;>rw [hf] at e<;>omega
   have ZX:∀q,Calls Tryz.prog 262 #[mp E.bm,.int .i64 y,.int .i64 k,.int .i64 v] (W.drewN q) fun e w'=>e=.returned .nilIface∧aW E w c gc A w' (upd D y.toNat k.toNat v) P o:=fun q=>by
    have hq:=h1.drewN q
    refine (Md hq.st.mem y k v hfr.1 hfr.2 hk.1 hk.2).mono ?_
    rintro e w' ⟨he,m',_,g'⟩
    refine ⟨he,hwt ⟨A,hq.words g' m',(Fr.drewN _ W q).trans (Fr.grown g') (fun i _ e=>.inl (.inr (.inl e))),fun _ _ h=>h⟩⟩
   have HR:Hid (uo E.n P o D a k v 0 P (upd D y.toNat k.toNat v)):=hide (.inr (.inl ⟨hz,by rw [hf];exact hown.1,by rw [hf];exact hown.2,rfl,rfl,by rw [hf]⟩))
   clear h1 hxy hz hP hf hval hpos hown hwt h hn1 hev
   go_upto_region 4 with fail
   go_quiet (first|(go_at_call 260;exact Calls.quiet_of (hIs _)))
   go_wp2_with fail
   go_region_with (go_at_call 262;refine (ZX _).mono ?_;rintro e w5 ⟨rfl,t5⟩)
   all_goals
    go_wp2_with fail
    go_ret
    exact ⟨_,_,_,HR.out,rfl,t5⟩
  ·have hnot:y=-1∨1<sh P y+o y:=by
    by_cases hy:y=-1
    ·exact .inl hy
    ·have:=hpos hy
     exact .inr (by have:¬sh P y+o y=1:=fun e=>hown ⟨hy,e⟩;omega)
   have hIs:∀q,Calls Tryz.prog 260 #[vp E.b,.int .i64 y] (W.drewN q) fun e w'=>e=.returned (.bool false)∧∃q',w'=(W.drewN q).drewN q':=fun q=>by
    refine ((h1.drewN q).st.Zd y hyw).mono ?_
    rintro e w' ⟨he,hw⟩
    have hne:¬val (gT fun f=>sh P f+o f) y=1:=by
     by_cases hy:y=-1
     ·rw [hy,val,h.st.neg (by omega)];simp
     ·rw [hval hy];exact fun e=>hown ⟨hy,e⟩
    rw [decide_eq_false hne] at he
    exact ⟨he,0,hw⟩
   have hnR:y=-1∨1<val (gT fun f=>sh P f+o f) y:=by
    rcases hnot with e|e
    ·exact .inl e
    ·by_cases hy:y=-1
     ·exact .inl hy
     ·exact .inr (by rw [hval hy];exact e)
   have LB:aR P a=-1∨1<sh P (aR P a)+o (aR P a):=by rw [hf];exact hnot
   by_cases hfull:used (fun f=>sh P f+o f) E.n=E.n
   ·have VM:∀q,Calls Tryz.prog 261 #[vp E.b,.int .i64 y] (W.drewN q) fun e w'=>e=.returned (.tuple #[.int .i64 (-1),Lj 12])∧∃q',w'=(W.drewN q).drewN q':=fun q=>by
     refine ((h1.drewN q).st.RU y hnR).mono ?_
     rintro e w' (⟨_,he,hw⟩|⟨f,hf1,hf2,_⟩)
     ·exact ⟨he,0,hw⟩
     ·have:=RX hf1 hf2
      unfold used at hfull;omega
    have HR:Hid (uo E.n P o D a k v 12 P D):=hide (.inr (.inr (.inl ⟨hz,LB,hfull,rfl,rfl,rfl⟩)))
    have ht:∀q u,aW E w c gc A ((W.drewN q).setCell ⟨i0,1,none⟩ u) D P o:=fun q u=>by
     refine aW.below h (Below.setCell (p:=⟨i0,1,none⟩) ?_ hW0 u)
     exact ⟨bA.os,bA.tape,bA.output,bA.size,bA.block⟩
    clear h1 hxy hz hP hf hval hpos hown hwt h hn1 hev hnot hnR LB hfull
    go_upto_region 4 with fail
    go_quiet (first|(go_at_call 260;exact Calls.quiet_of (hIs _)))
    go_wp2_with fail
    go_region_with (go_at_call 261;refine (VM _).mono ?_;rintro e w2 ⟨rfl,q2,rfl⟩)
    all_goals
     go_wp2_with fail
     go_ret
     exact ⟨_,_,_,HR.out,rfl,ht _ _⟩
   ·have hic:i0≠c:=fun e=>by have:=h.sp.lt;omega
    have hig:i0≠gc:=fun e=>by have:=h.sp.uk;omega
    have hib:i0≠E.b:=fun e=>by have:=h.st.blt;omega
    have him:i0≠E.bm:=fun e=>by have:=h.st.mlt;omega
    have hio:¬bO E A i0:=fun ho=>by have:=h.st.Dm ho;omega
    have VM:∀q,Calls Tryz.prog 261 #[vp E.b,.int .i64 y] (W.drewN q) fun e w2=>∃f:Nat,e=.returned (.tuple #[.int .i64 (f:Int),.nilIface])∧f<E.n∧sh P (f:Int)+o (f:Int)=0∧
     (∃A2,Vs E w2 (row D f (fq D y)) (jq (di (gT fun f=>sh P f+o f) y) (f:Int) 1) A2∧Fr (bO E A) W w2∧(∀i,i<W.heap.size→A2 i→A i))∧
     w2.cell? ⟨c,0,none⟩=some (vp E.b)∧w2.cell? ⟨c,1,none⟩=some (.map (some gc))∧w2.cell? ⟨E.b,0,none⟩=some (mp E.bm)∧w2.heap[i0]? = some (.cells #[.int .i64 x,.int .i64 y] 264)∧aK w2 gc (bX P) (vO P):=fun q=>by
     refine ((h1.drewN q).st.RU y hnR).mono ?_
     rintro e w2 (⟨hn,_⟩|⟨f,hf1,hf2,he,A2,v2,f2,s2⟩)
     ·exact absurd hn hfull
     ·have f2':Fr (bO E A) W w2:=(Fr.drewN _ W q).trans f2 (fun _ _ h=>h)
      refine ⟨f,he,hf1,(Hl (t:=fun f=>sh P f+o f) (by omega)).1 hf2,⟨A2,v2,f2',s2⟩,?_,?_,?_,(f2'.block i0 hil hio).trans hn1,h1.sp.map.keep (f2'.block gc h1.sp.uk h1.iO)⟩
      ·rw [World.cell?_of_block (w:=W) (a:=⟨c,0,none⟩) (f2'.block c h1.sp.lt h1.mR)];exact c0
      ·rw [World.cell?_of_block (w:=W) (a:=⟨c,1,none⟩) (f2'.block c h1.sp.lt h1.mR)];exact c1
      ·rw [World.cell?_of_block (w:=W) (a:=⟨E.b,0,none⟩) (f2'.block E.b h1.st.blt h1.st.bno)];exact d0
    have HR:Hid (∀f:Nat,f<E.n→sh P (f:Int)+o (f:Int)=0→uo E.n P o D a k v 0 (dE P a (x,(f:Int))) (upd (row D f (fq D y)) f k.toNat v)):=hide (fun f hf1 hf2=>.inr (.inr (.inr ⟨hz,LB,f,hf1,hf2,rfl,by rw [acG],by rw [hf]⟩)))
    have hfin:=fun (f:Nat) (hf1:f<E.n) (hf2:sh P (f:Int)+o (f:Int)=0) (w2 w3 w4 w5:World) A2 (v2:Vs E w2 (row D f (fq D y)) _ A2) f2 s2 f3 g4 Qy g5 (m5:Mem w5 E.bm E.sm E.n (upd (row D f (fq D y)) f k.toNat v))=>h1.stored hP hf1 hf2 hio hic hig hib him hil (w2:=w2) (w3:=w3) (w4:=w4) (w5:=w5) (A2:=A2) v2 f2 s2 f3 g4 Qy g5 m5
    have Zi:∀(f:Nat) (w5:World),(∃A',VS E w5 c gc (upd (row D f (fq D y)) f k.toNat v) A' (dE P a (x,(f:Int))) o∧Fr (fun i=>(bO E A i∨i=gc)∨i=i0) W w5∧∀i,i<W.heap.size→A' i→A i)→aW E w c gc A w5 (upd (row D f (fq D y)) f k.toNat v) (dE P a (x,(f:Int))) o:=fun f w5 ⟨A',v',f',s'⟩=>by
     have fA:Fr (fun i=>bO E A i∨i=gc) w W:=oH bA
     exact ⟨A',v',fA.trans f' (fun i hi ho=>by rcases ho with ho|ho;exact ho;omega) |> fun z=>z,fun i hi ha=>s' i (Nat.lt_of_lt_of_le hi bA.size) ha⟩
    have hcg:c≠gc:=h.sp.ne
    have hgb:=h.gb
    have hgm:=h.gm
    have his:E.sm≠i0:=fun e=>hio (.inr (.inl e.symm))
    have hsg:E.sm≠gc:=fun e=>h.iO (.inr (.inl e.symm))
    have hsz:bX P<maxLen:=by have:=ry P;unfold maxLen;omega
    clear h1 hxy hz hP hf hval hpos hown hwt h hev hnot hnR LB hfull acG
    go_upto_region 4 with fail
    go_quiet (first|(go_at_call 260;exact Calls.quiet_of (hIs _)))
    go_wp2_with fail
    go_region_with (go_at_call 261;refine (VM _).mono ?_;rintro e w2 ⟨f,rfl,hf1,hf2,⟨A2,v2,f2,s2⟩,cc0,cc1,dd0,hblk,wX⟩;obtain ⟨pp0,pp1,afn,afm⟩:=mD hblk)
    all_goals
     have hblk3:=heap_setCell_same w2 i0 1 (.int .i64 (f:Int)) _ _ _ hblk
     have f3:Fr (·=i0) w2 (w2.setCell ⟨i0,1,none⟩ (.int .i64 (f:Int))):=(Fr.refl _ _).setCell i0 1 _ (fun _=>rfl)
     obtain ⟨W3,hW3⟩:∃W3,w2.setCell ⟨i0,1,none⟩ (.int .i64 (f:Int))=W3:=⟨_,rfl⟩
     rw [hW3] at hblk3 f3 ⊢
     replace hblk3:W3.heap[i0]? = some (.cells #[.int .i64 x,.int .i64 (f:Int)] 264):=hblk3
     obtain ⟨q0,q1,_,_⟩:=mD hblk3
     have lc:c<w2.heap.size:=World.block_lt_of_cell? w2 _ cc0
     have lb:E.b<w2.heap.size:=World.block_lt_of_cell? w2 _ dd0
     have c0':W3.cell? ⟨c,0,none⟩=some (vp E.b):=by rw [World.cell?_of_block (w:=w2) (a:=⟨c,0,none⟩) (f3.block c lc (fun e=>hic e.symm))];exact cc0
     have c1':W3.cell? ⟨c,1,none⟩=some (.map (some gc)):=by rw [World.cell?_of_block (w:=w2) (a:=⟨c,1,none⟩) (f3.block c lc (fun e=>hic e.symm))];exact cc1
     have d0':W3.cell? ⟨E.b,0,none⟩=some (mp E.bm):=by rw [World.cell?_of_block (w:=w2) (a:=⟨E.b,0,none⟩) (f3.block E.b lb (fun e=>hib e.symm))];exact dd0
     have Zu:=wX.keep (f3.block gc wX.lt (fun e=>hig e.symm))
     obtain ⟨w4,hrun,Qy,g4⟩:=(Zu.keep (w':=W3.drew) rfl).put Tryz.underlying163 hsz a ha (.agg #[.int .i64 x,.int .i64 (f:Int)])
     rw [Ej] at Qy
     have g4':W3.grownBy w4 (some gc):=⟨g4.os,g4.tape,g4.output,g4.size,g4.block⟩
     have ajR:=g4'.cell c0' (fun e=>hcg (Option.some.inj e))
     have ajP:=g4'.cell d0' (fun e=>hgb (Option.some.inj e).symm)
     have ajy:=g4'.cell q1 (fun e=>hig (Option.some.inj e))
     have k4:∀i,i<w2.heap.size→i≠i0→i≠gc→w4.heap[i]? = w2.heap[i]? := fun i hi h1 h2=>(g4'.block i (Nat.lt_of_lt_of_le hi f3.size) (fun e=>h2 (Option.some.inj e))).trans (f3.block i hi h1)
     have m4:=v2.mem.keep (k4 _ v2.mlt (fun e=>him e.symm) (fun e=>hgm e.symm)) (k4 _ v2.slt his hsg)
     have ZX:∀q,Calls Tryz.prog 262 #[mp E.bm,.int .i64 (f:Int),.int .i64 k,.int .i64 v] (w4.drewN q) fun e w'=>e=.returned .nilIface∧aW E w c gc A w' (upd (row D f (fq D y)) f k.toNat v) (dE P a (x,(f:Int))) o:=fun q=>by
      refine (Md (m4.keep (w':=w4.drewN q) rfl rfl) (f:Int) k v (by omega) (by omega) hk.1 hk.2).mono ?_
      rintro e w5 ⟨he,m5,_,g5⟩
      have g5':w4.grownBy w5 (some E.sm):=⟨g5.os,g5.tape,g5.output,g5.size,g5.block⟩
      exact ⟨he,Zi f w5 (hfin f hf1 hf2 w2 W3 w4 w5 A2 v2 f2 s2 f3 g4' Qy g5' (by simpa using m5))⟩
     have HF:Hid (uo E.n P o D a k v 0 (dE P a (x,(f:Int))) (upd (row D f (fq D y)) f k.toNat v)):=hide (HR.out f hf1 hf2)
     clear hfin Zi HR v2 f2 s2 m4 k4 Qy Zu wX f3 g4 hblk hblk3 hW3 cc0 cc1 dd0 pp0 pp1 afn afm VM hIs c0 c1 d0 p0 p1 pf0 pf1
     go_wp2_with fail
     go_region
     go_wp2_with fail
     go_region_with (go_at_call 262;refine (ZX _).mono ?_;rintro e w5 ⟨rfl,t5⟩)
     all_goals
      go_wp2_with fail
      go_ret
      exact ⟨_,_,_,HF.out,rfl,t5⟩
 ·have hev:sD (dN P a k 2)=Lj (dN P a k 2):=by unfold sD;rw [if_neg hz]
  rw [hev]
  have HE:=hide hev
  have HZ:=hide hz
  have ht:=aW.below h bA
  clear hxy hz h hev
  go_wp2_with fail
  go_ret
  exact ⟨_,_,_,.inl ⟨HZ.out,rfl,rfl,rfl⟩,by rw [HE.out];rfl,ht⟩
end
theorem Im (w:World) (n:Int) (h:¬(1≤n∧n≤256)):Calls Tryz.prog 16 #[.int .i64 n] w fun e w'=>e=.returned (.tuple #[.pointer none,Lj 2])∧w'=w:=by
 have hN:=aaL w n h
 go_enter Tryz.func16,Tryz.ntmps16
 go_wp2_with (go_at_call 35;refine hN.mono ?_;rintro e w1 ⟨rfl,h1⟩;subst w1)
 go_ret2
 exact ⟨rfl,rfl⟩
theorem SY:ZZ (gT fun _=>0) (fun _=>none):=fun x=>by
 unfold gT;rw [if_neg (fun h=>h.2 rfl)];rfl
theorem Ml (n:Nat):num (gT fun _=>0) n=0:=mq _ _ (fun i _ _=>by simp [gT])
theorem EW (w:World) (n:Nat) (h1:1≤n) (h2:n≤256):Calls Tryz.prog 16 #[.int .i64 (n:Int)] w fun e w'=>∃b,e=.returned (.tuple #[vp b,.nilIface])∧∃E A,E.b=b∧E.n=n∧Vs E w' (fun _ _=>0) (gT fun _=>0) A∧Below w.heap.size w w'∧(∀i,i<w.heap.size→¬bO E A i)∧w.heap.size≤b∧w.heap.size≤E.bm:=by
 have hmm:=@run_makeMap Tryz.prog
 go_enter Tryz.func16,Tryz.ntmps16
 go_wp2_with fail
 refine (Xk w n (by omega) (by omega)).mono ?_
 rintro e w1 ⟨bm,rfl,sm,m1,ls,lb,b1⟩
 rw [Int.toNat_natCast] at m1
 go_wp2_with fail
 refine (WJ w1 n h1 h2).mono ?_
 rintro e w2 ⟨bp,rfl,A,a2,f2,o2⟩
 have b2:Below w1.heap.size w1 w2:=⟨f2.os,f2.tape,f2.output,f2.size,fun i hi=>f2.block i hi (fun h=>h)⟩
 have hfin:∀W:World,Below w2.heap.size w2 W→W.heap[w2.heap.size]? = some (.map #[] 0)→W.heap[w2.heap.size+1]? = some (.cells #[mp bm,pp bp,.map (some w2.heap.size)] 99)→
  ∃E A,E.b=w2.heap.size+1∧E.n=n∧Vs E W (fun _ _=>0) (gT fun _=>0) A∧Below w.heap.size w W∧(∀i,i<w.heap.size→¬bO E A i)∧w.heap.size≤w2.heap.size+1∧w.heap.size≤E.bm:=by
  intro W hB hm hs
  have s1:=b1.size
  have s2:=b2.size
  have lbm:=m1.acy
  have lsm:=m1.acx (by omega)
  have hA:∀i,A i→i<w2.heap.size∧w1.heap.size≤i:=fun i hi=>⟨a2.lt' hi,by
   apply Classical.byContradiction;intro hn;exact o2 i (by omega) hi⟩
  refine ⟨⟨w2.heap.size+1,bm,sm,bp,w2.heap.size,n⟩,A,rfl,rfl,⟨hs,m1.keep ((hB.block bm (by omega)).trans (b2.block bm lbm)) ((hB.block sm (by omega)).trans (b2.block sm lsm)),⟨_,_,(a2.more' (by omega:0≤256)).keep' (fun i hi=>hB.block i (hA i hi).1),SY⟩,?_,fun x k hx=>?_,fun ha=>?_,fun ha=>?_,fun ha=>?_,fun ha=>?_,?_,?_,?_,?_,h1⟩,(b1.trans (b2.mono s1)).trans (hB.mono (by omega)),fun i hi ho=>?_,by omega,lb⟩
  ·show aK W w2.heap.size (num (gT fun _=>0) n) (tm (gT fun _=>0))
   rw [Ml]
   have e0:tm (gT fun _=>0)=fun _=>none:=by funext x;unfold tm gT;rw [if_neg (fun h=>h.2 rfl)];rfl
   rw [e0]
   have:=aK.made w2
   refine this.keep (hm.trans ?_)
   exact (qI w2 _).symm
  ·unfold gT at hx;rw [if_neg (fun h=>h.2 rfl)] at hx;cases hx
  ·have:=(hA _ ha).1;simp only at this;omega
  ·have:=(hA _ ha).2;simp only at this;omega
  ·have:=(hA _ ha).2;simp only at this;omega
  ·have:=(hA _ ha).1;simp only at this;omega
  ·simp only;omega
  ·simp only;omega
  ·simp only;omega
  ·simp only;omega
  ·rcases ho with ho|ho|ho
   ·have:=(hA i ho).2;omega
   ·simp only at ho;omega
   ·simp only at ho;omega
 go_wp2_with fail
 go_ret2
 refine ⟨w2.heap.size+1,by simp,hfin _ ?_ ?_ ?_⟩
 ·exact ((Below.refl _ w2).alloc (Nat.le_refl _) _).alloc (by simp) _
 ·show ((w2.heap.push _).push _)[w2.heap.size]? = _
  rw [Array.getElem?_push,if_neg (by simp),Array.getElem?_push,if_pos rfl]
 ·show ((w2.heap.push _).push _)[w2.heap.size+1]? = _
  rw [Array.getElem?_push,if_pos (by simp)]
theorem Io {E:St}{w:World}{D:Nat→Nat→Int}{A:Nat→Prop}{o:Int→Nat}(h:Vs E w D (gT o) A):Calls Tryz.prog 38 #[vp E.b] w fun e w'=>∃c,e=.returned (.tuple #[vp c,.nilIface])∧∃gc,VS E w' c gc D A (fun _=>none) o∧Below w.heap.size w w'∧w.heap.size≤c∧w.heap.size≤gc:=by
 have hmm:=@run_makeMap Tryz.prog
 have hfin:∀W:World,Below w.heap.size w W→W.heap[w.heap.size]? = some (.map #[] 0)→W.heap[w.heap.size+1]? = some (.cells #[vp E.b,.map (some w.heap.size)] 165)→VS E W (w.heap.size+1) w.heap.size D A (fun _=>none) o:=by
  intro W hB hm hs
  have e1:gT (fun f=>sh (fun _=>none) f+o f)=gT o:=gI (fun x hx=>by rw [qD hx];omega)
  refine ⟨by rw [e1];exact h.below hB,⟨hs,?_⟩,lN.none _,QQ.none,fun ho=>?_,fun ho=>?_,fun e=>?_,fun e=>?_⟩
  ·rw [rG]
   have e0:vO (fun _=>none)=fun _=>none:=rfl
   rw [e0]
   exact (aK.made w).keep (hm.trans (qI w _).symm)
  ·have:=h.Dm ho;omega
  ·have:=h.Dm ho;omega
  ·have:=h.blt;omega
  ·have:=h.mlt;omega
 go_enter Tryz.func38,Tryz.ntmps38
 go_wp2_with fail
 go_ret2
 have hB:Below w.heap.size w ((w.alloc (.map #[] 0)).alloc (.cells #[vp E.b,.map (some w.heap.size)] 165)):=((Below.refl _ w).alloc (Nat.le_refl _) _).alloc (by simp) _
 refine ⟨w.heap.size+1,by simp,w.heap.size,hfin _ hB ?_ ?_,hB,by omega,by omega⟩
 ·show ((w.heap.push _).push _)[w.heap.size]? = _
  rw [Array.getElem?_push,if_neg (by simp),Array.getElem?_push,if_pos rfl]
 ·show ((w.heap.push _).push _)[w.heap.size+1]? = _
  rw [Array.getElem?_push,if_pos (by simp)]
end Go.Proofs.YtippochapiolpaaGreatDoor

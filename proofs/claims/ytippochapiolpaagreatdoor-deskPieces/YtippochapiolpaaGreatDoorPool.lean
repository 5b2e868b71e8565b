/- Blocks of frames, plainly: which are free as great as can be, and what becomes of them when one is taken or given back. -/
import Derived.WalkKit
import Derived.Test.YtippochapiolpaaGreatDoorSKeys
import Derived.Sort.Row
import Derived.Laws.Rows
import Derived.Laws.AppendOwn
import Derived.Deep.Draws
namespace Go.Proofs.YtippochapiolpaaGreatDoor
def blk (U:Nat→Bool) (j q:Nat):Prop:=∀f,f / 2 ^ j=q→U f=true
def ug (U:Nat→Bool) (j q:Nat):Prop:=j≤6∧blk U j q∧(j<6→¬blk U (j+1) (q / 2))
def cut (U:Nat→Bool) (j q:Nat):Nat→Bool:=fun f=>U f && !(f / 2 ^ j == q)
def join (U:Nat→Bool) (j q:Nat):Nat→Bool:=fun f=>U f || (f / 2 ^ j == q)
def Dp (q:Nat):Nat:=if q % 2=0 then q+1 else q-1
theorem sS {f j q k:Nat}(h:f / 2 ^ j=q) (hk:j≤k):f / 2 ^ k=q / 2 ^ (k-j):=by
 rw [←h,Nat.div_div_eq_div_mul,←Nat.pow_add,Nat.add_sub_cancel' hk]
theorem oI (f j:Nat):f / 2 ^ (j+1)=f / 2 ^ j / 2:=by
 rw [Nat.pow_succ,Nat.div_div_eq_div_mul]
theorem bG (j q:Nat):q*2 ^ j / 2 ^ j=q:=Nat.mul_div_cancel q (Nat.two_pow_pos j)
theorem lW (f j q:Nat):f / 2 ^ j=q↔q*2 ^ j≤f∧f<q*2 ^ j+2 ^ j:=by
 rw [Nat.div_eq_iff (Nat.two_pow_pos j)]
 have:=Nat.two_pow_pos j
 omega
theorem Rh {U:Nat→Bool}{j q k m f:Nat}(h:ug U j q) (hb:blk U k m) (hk:k≤6) (h1:f / 2 ^ j=q) (h2:f / 2 ^ k=m):¬j<k:=by
 intro hlt
 refine h.2.2 (by omega) (fun g hg=>hb g ?_)
 rw [sS hg hlt,←h2,sS (f:=f) (j:=j+1) (by rw [oI,h1]) hlt]
theorem yY {U:Nat→Bool}{j q k m f:Nat}(h:ug U j q) (h':ug U k m) (h1:f / 2 ^ j=q) (h2:f / 2 ^ k=m):j=k∧q=m:=by
 have a:=Rh h h'.2.1 h'.1 h1 h2
 have b:=Rh h' h.2.1 h.1 h2 h1
 have e:j=k:=by omega
 subst e
 exact ⟨rfl,h1.symm.trans h2⟩
theorem dw {U:Nat→Bool}{k m f:Nat}:cut U k m f=true↔U f=true∧f / 2 ^ k≠m:=by simp [cut]
theorem lI {U:Nat→Bool}{k m f:Nat}:join U k m f=true↔U f=true∨f / 2 ^ k=m:=by simp [join]
theorem lC {U:Nat→Bool}{k m:Nat}(h:ug U k m) (j q:Nat):ug (cut U k m) j q↔ug U j q∧¬(j=k∧q=m):=by
 constructor
 ·rintro ⟨hj,hb,hmax⟩
  have f0:=bG j q
  have ht:=dw.1 (hb _ f0)
  refine ⟨⟨hj,fun f hf=>(dw.1 (hb f hf)).1,fun hj6 hP=>hmax hj6 (fun g hg=>dw.2 ⟨hP g hg,fun hm=>?_⟩)⟩,?_⟩
  ·by_cases hk:k<j+1
   ·exact Rh h hP (by omega) hm hg hk
   ·refine ht.2 ?_
    rw [sS f0 (by omega:j≤k),←hm,sS hg (by omega:j+1≤k),←Nat.pow_one 2,Nat.div_div_eq_div_mul,←Nat.pow_add,Nat.pow_one]
    congr 2;omega
  ·rintro ⟨rfl,rfl⟩;exact ht.2 f0
 ·rintro ⟨⟨hj,hb,hmax⟩,hne⟩
  exact ⟨hj,fun f hf=>dw.2 ⟨hb f hf,fun hm=>hne (yY ⟨hj,hb,hmax⟩ h hf hm)⟩,fun hj6 hP=>hmax hj6 (fun g hg=>(dw.1 (hP g hg)).1)⟩
theorem zQ (q:Nat):Dp q / 2=q / 2:=by unfold Dp;split<;>omega
theorem abB (q:Nat):Dp q≠q:=by unfold Dp;split<;>omega
theorem MP {x q:Nat}(h:x / 2=q / 2):x=q∨x=Dp q:=by unfold Dp;split<;>omega
theorem MV (U:Nat→Bool) (k q:Nat):cut (cut U k q) k (Dp q)=cut U (k+1) (q / 2):=by
 funext f
 rw [Bool.eq_iff_iff,dw,dw,dw,oI]
 constructor
 ·rintro ⟨⟨h,a⟩,b⟩
  exact ⟨h,fun e=>(MP e).elim a b⟩
 ·rintro ⟨h,a⟩
  exact ⟨⟨h,fun e=>a (by rw [e])⟩,fun e=>a (by rw [e,zQ])⟩
theorem UU {U:Nat→Bool}{k q:Nat}(h:∀f,f / 2 ^ k=q→U f=false):cut (join U k q) k q=U:=by
 funext f
 rw [Bool.eq_iff_iff,dw,lI]
 constructor
 ·rintro ⟨a|a,b⟩
  ·exact a
  ·exact absurd a b
 ·intro a
  exact ⟨.inl a,fun e=>by rw [h f e] at a;cases a⟩
theorem CE {U:Nat→Bool}{k q:Nat}(hk:k≤6) (hb:blk U k q) (h:k<6→¬ug (cut U k q) k (Dp q)):ug U k q:=by
 refine ⟨hk,hb,fun Zy hP=>h Zy ⟨hk,fun f hf=>dw.2 ⟨hP f (by rw [oI,hf,zQ]),by rw [hf];exact abB q⟩,fun _ hQ=>?_⟩⟩
 rw [zQ] at hQ
 exact (dw.1 (hQ (q*2 ^ k) (by rw [oI,bG]))).2 (bG k q)
theorem abD {U:Nat→Bool}{k q:Nat}(hb:blk U k q) (h:ug (cut U k q) k (Dp q)):blk U (k+1) (q / 2):=by
 intro f hf
 rw [oI] at hf
 rcases MP hf with e|e
 ·exact hb f e
 ·exact (dw.1 (h.2.1 f e)).1
def Can (F:Nat→List Int) (U:Nat→Bool):Prop:=
 ∀k,k<7→(F k).Pairwise (· < ·)∧∀z,z∈F k↔∃q:Nat,z=((q*2 ^ k:Nat):Int)∧ug U k q
def nQ (F:Nat→List Int) (k:Nat) (l:List Int):Nat→List Int:=fun j=>if j=k then l else F j
theorem Cs (F:Nat→List Int) (k:Nat) (l:List Int):nQ F k l k=l:=by simp [nQ]
theorem OE (F:Nat→List Int) (k:Nat):nQ F k (F k)=F:=by funext j;simp only [nQ];split<;>simp_all
theorem oK {k q m:Nat}(h:((q*2 ^ k:Nat):Int)=((m*2 ^ k:Nat):Int)):q=m:=
 Nat.eq_of_mul_eq_mul_right (Nat.two_pow_pos k) (Int.ofNat.inj h)
theorem M5 {F:Nat→List Int}{U:Nat→Bool}(c:Can F U) {k m:Nat}(hk:k<7) (h:ug U k m) :
 Can (nQ F k ((F k).filter fun x=>!(x == ((m*2 ^ k:Nat):Int)))) (cut U k m):=by
 intro j hj
 by_cases e:j=k
 ·subst e
  rw [Cs]
  refine ⟨(c j hj).1.filter _,fun z=>?_⟩
  rw [List.mem_filter,(c j hj).2 z]
  constructor
  ·rintro ⟨⟨q,rfl,hq⟩,hne⟩
   refine ⟨q,rfl,(lC h j q).2 ⟨hq,fun hh=>?_⟩⟩
   rw [hh.2] at hne;simp at hne
  ·rintro ⟨q,rfl,hq⟩
   have:=(lC h j q).1 hq
   refine ⟨⟨q,rfl,this.1⟩,?_⟩
   simp only [Bool.not_eq_true',beq_eq_false_iff_ne,ne_eq]
   exact fun hh=>this.2 ⟨rfl,oK hh⟩
 ·rw [show nQ F k ((F k).filter fun x=>!(x == ((m*2 ^ k:Nat):Int))) j=F j by simp [nQ,e]]
  refine ⟨(c j hj).1,fun z=>?_⟩
  rw [(c j hj).2 z]
  constructor
  ·rintro ⟨q,rfl,hq⟩;exact ⟨q,rfl,(lC h j q).2 ⟨hq,fun hh=>e hh.1⟩⟩
  ·rintro ⟨q,rfl,hq⟩;exact ⟨q,rfl,((lC h j q).1 hq).1⟩
def ins (l:List Int) (x:Int):List Int:=l.take (l.countP (· < x)) ++ x :: l.drop (l.countP (· < x))
theorem KY {l:List Int}{x:Int}(h:∀y∈l,¬y<x):l.countP (· < x)=0:=by
 rw [List.countP_eq_zero];intro y hy;simpa using h y hy
theorem Ut (a:Int) (l:List Int) (x:Int) (h:a<x):ins (a :: l) x=a :: ins l x:=by
 unfold ins;rw [List.countP_cons_of_pos (by simpa using h)];simp
theorem AJ:∀(l:List Int) (x:Int),l.Pairwise (· < ·)→x∉l→(ins l x).Pairwise (· < ·)∧∀z,z∈ins l x↔z∈l∨z=x
 | [],x,_,_=>by simp [ins]
 |a :: l,x,hs,hx=>by
  rw [List.pairwise_cons] at hs
  by_cases h:a<x
  ·rw [Ut a l x h]
   have ih:=AJ l x hs.2 (fun hh=>hx (List.mem_cons_of_mem _ hh))
   refine ⟨List.pairwise_cons.2 ⟨fun z hz=>?_,ih.1⟩,fun z=>?_⟩
   ·rcases (ih.2 z).1 hz with hz|rfl
    ·exact hs.1 z hz
    ·exact h
   ·rw [List.mem_cons,ih.2 z,List.mem_cons,or_assoc]
  ·have hlt:x<a:=by
    have:x≠a:=fun e=>hx (by rw [e];exact List.mem_cons_self)
    omega
   have e:ins (a :: l) x=x :: a :: l:=by
    unfold ins
    rw [KY (by intro y hy;rcases List.mem_cons.1 hy with rfl|hy;exact h;have:=hs.1 y hy;omega)];rfl
   rw [e]
   refine ⟨List.pairwise_cons.2 ⟨fun z hz=>?_,List.pairwise_cons.2 hs⟩,fun z=>?_⟩
   ·rcases List.mem_cons.1 hz with rfl|hz
    ·exact hlt
    ·have:=hs.1 z hz;omega
   ·rw [List.mem_cons];exact or_comm
theorem M4 {F:Nat→List Int}{U:Nat→Bool}{k q:Nat}(c:Can F (cut U k q)) (hk:k<7) (h:ug U k q) :
 Can (nQ F k (ins (F k) ((q*2 ^ k:Nat):Int))) U:=by
 intro j hj
 by_cases e:j=k
 ·subst e
  rw [Cs]
  have hn:((q*2 ^ j:Nat):Int)∉F j:=by
   intro hm
   obtain ⟨m,hm,hx⟩:=((c j hj).2 _).1 hm
   exact ((lC h j m).1 hx).2 ⟨rfl,(oK hm).symm⟩
  have hi:=AJ (F j) _ (c j hj).1 hn
  refine ⟨hi.1,fun z=>?_⟩
  rw [hi.2 z,(c j hj).2 z]
  constructor
  ·rintro (⟨m,rfl,hx⟩|rfl)
   ·exact ⟨m,rfl,((lC h j m).1 hx).1⟩
   ·exact ⟨q,rfl,h⟩
  ·rintro ⟨m,rfl,hx⟩
   by_cases e:m=q
   ·subst e;exact .inr rfl
   ·exact .inl ⟨m,rfl,(lC h j m).2 ⟨hx,fun hh=>e hh.2⟩⟩
 ·rw [show nQ F k (ins (F k) ((q*2 ^ k:Nat):Int)) j=F j by simp [nQ,e]]
  refine ⟨(c j hj).1,fun z=>?_⟩
  rw [(c j hj).2 z]
  constructor
  ·rintro ⟨m,rfl,hx⟩;exact ⟨m,rfl,((lC h j m).1 hx).1⟩
  ·rintro ⟨m,rfl,hx⟩;exact ⟨m,rfl,(lC h j m).2 ⟨hx,fun hh=>e hh.1⟩⟩
def okb (U:Nat→Bool) (f k:Nat):Bool:=f % 2 ^ k == 0 && (List.range (2 ^ k)).all fun i=>U (f+i)
def qc (U:Nat→Bool) (f:Nat):Nat→Nat
 |0=>0
 |k+1=>if okb U f (k+1) then k+1 else qc U f k
def scan (U:Nat→Bool) (n:Nat):Nat→Nat→List (Nat×Nat)
 |0,_=>[]
 |g+1,f=>if f<n then (if U f then (f,qc U f 6) :: scan U n g (f+2 ^ qc U f 6) else scan U n g (f+1)) else []
def cnt (U:Nat→Bool):Nat→Nat→Nat
 |_,0=>0
 |f,m+1=>(if U f then 1 else 0)+cnt U (f+1) m
def size (l:List (Nat×Nat)):Nat:=(l.map fun x=>2 ^ x.2).sum
theorem EG (U:Nat→Bool):∀(a b f:Nat),cnt U f (a+b)=cnt U f a+cnt U (f+a) b
 |0,b,f=>by simp [cnt]
 |a+1,b,f=>by
  rw [show a+1+b=(a+b)+1 by omega,cnt,cnt,EG U a b (f+1),show f+1+a=f+(a+1) by omega];omega
theorem MW (U:Nat→Bool):∀(m f:Nat),(∀i,i<m→U (f+i)=true)→cnt U f m=m
 |0,_,_=>rfl
 |m+1,f,h=>by
  rw [cnt,MW U m (f+1) (fun i hi=>by rw [show f+1+i=f+(i+1) by omega];exact h (i+1) (by omega)),show U f=true from h 0 (by omega)];simp;omega
theorem Mk {U:Nat→Bool}{f k:Nat}:okb U f k=true↔∃q,f=q*2 ^ k∧blk U k q:=by
 have hp:=Nat.two_pow_pos k
 simp only [okb,Bool.and_eq_true,beq_iff_eq,List.all_eq_true,List.mem_range]
 constructor
 ·rintro ⟨h,ha⟩
  have hf:f=f / 2 ^ k*2 ^ k:=by have:=Nat.div_add_mod f (2 ^ k);rw [h,Nat.add_zero,Nat.mul_comm] at this;exact this.symm
  refine ⟨f / 2 ^ k,hf,fun g hg=>?_⟩
  rw [lW,←hf] at hg
  have:=ha (g-f) (by omega)
  rwa [Nat.add_sub_cancel' hg.1] at this
 ·rintro ⟨q,rfl,hb⟩
  exact ⟨Nat.mul_mod_left _ _,fun i hi=>hb _ ((lW _ _ _).2 ⟨by omega,by omega⟩)⟩
theorem Mj (U:Nat→Bool) (f:Nat):∀k,qc U f k≤k
 |0=>Nat.le_refl _
 |k+1=>by rw [qc];split;exact Nat.le_refl _;exact Nat.le_succ_of_le (Mj U f k)
theorem Mi (U:Nat→Bool) (f:Nat) (h:U f=true):∀k,okb U f (qc U f k)=true
 |0=>by simp [qc,okb,h,Nat.mod_one]
 |k+1=>by rw [qc];split;assumption;exact Mi U f h k
theorem Gw (U:Nat→Bool) (f:Nat):∀k j,qc U f k<j→j≤k→okb U f j=false
 |0,j,h,hj=>by rw [qc] at h;omega
 |k+1,j,h,hj=>by
  rw [qc] at h
  split at h
  ·omega
  ·rename_i hn
   by_cases e:j=k+1
   ·subst e;simpa using hn
   ·exact Gw U f k j h (by omega)
theorem R7 (U:Nat→Bool):∀(d k q:Nat),6-k=d→k≤6→blk U k q→∃j m,k≤j∧m=q / 2 ^ (j-k)∧ug U j m
 |0,k,q,hd,hk,hb=>⟨k,q,Nat.le_refl _,by simp,hk,hb,fun h=>by omega⟩
 |d+1,k,q,hd,hk,hb=>by
  by_cases h:blk U (k+1) (q / 2)
  ·obtain ⟨j,m,hj,hm,hx⟩:=R7 U d (k+1) (q / 2) (by omega) (by omega) h
   refine ⟨j,m,by omega,?_,hx⟩
   rw [hm,←Nat.pow_one 2,Nat.div_div_eq_div_mul,←Nat.pow_add,Nat.pow_one]
   congr 2;omega
  ·exact ⟨k,q,Nat.le_refl _,by simp,hk,hb,fun _=>h⟩
def clean (U:Nat→Bool) (f:Nat):Prop:=∀k q,ug U k q→f≤q*2 ^ k∨q*2 ^ k+2 ^ k≤f
theorem tY (U:Nat→Bool):clean U 0:=fun _ _ _=>.inl (Nat.zero_le _)
theorem TF {U:Nat→Bool}{f:Nat}(hc:clean U f) (h:U f=true):∃q,f=q*2 ^ qc U f 6∧ug U (qc U f 6) q:=by
 obtain ⟨q,hq,hb⟩:=Mk.1 (Mi U f h 6)
 have hle:=Mj U f 6
 refine ⟨q,hq,?_⟩
 obtain ⟨j,m,hj,hm,hx⟩:=R7 U _ _ q rfl hle hb
 have hfq:f / 2 ^ qc U f 6=q:=(lW _ _ _).2 ⟨by omega,by have:=Nat.two_pow_pos (qc U f 6);omega⟩
 have hfm:f / 2 ^ j=m:=by rw [sS hfq hj,hm]
 have hin:=(lW _ _ _).1 hfm
 have hbase:f=m*2 ^ j:=by rcases hc j m hx with a|a<;>omega
 by_cases e:qc U f 6=j
 ·rw [e] at hm ⊢;simp at hm;rw [←hm];exact hx
 ·have:=Gw U f 6 j (by omega) hx.1
  rw [Mk.2 ⟨m,hbase,hx.2.1⟩] at this;cases this
theorem uI {U:Nat→Bool}{n:Nat}(hb:∀f,U f=true→f<n):∀(g f:Nat),n≤f+g→clean U f→
 (∀b k,(b,k)∈scan U n g f↔f≤b∧∃q,b=q*2 ^ k∧ug U k q)∧(scan U n g f).Pairwise (fun x y=>x.1<y.1)∧size (scan U n g f)=cnt U f (n-f)
 |0,f,hg,_=>by
  refine ⟨fun b k=>⟨fun h=>by simp [scan] at h,?_⟩,by simp [scan],by simp [scan,size,show n-f=0 by omega,cnt]⟩
  rintro ⟨hf,q,rfl,hx⟩
  have:=hb _ (hx.2.1 _ (bG k q));omega
 |g+1,f,hg,hc=>by
  rw [scan]
  by_cases hf:f<n
  ·rw [if_pos hf]
   cases hU:U f with
   |true=>
    rw [if_pos rfl]
    obtain ⟨q,hq,hx⟩:=TF hc hU
    generalize hk:qc U f 6=k at hq hx ⊢
    have hp:=Nat.two_pow_pos k
    have hc':clean U (f+2 ^ k):=by
     intro j m hy
     rcases hc j m hy with a|a
     ·by_cases e:f+2 ^ k≤m*2 ^ j
      ·exact .inl e
      ·have h1:m*2 ^ j / 2 ^ k=q:=(lW _ _ _).2 ⟨by omega,by omega⟩
       obtain ⟨e1,e2⟩:=yY hy hx (bG j m) h1
       subst e1 e2
       exact .inr (by omega)
     ·exact .inr (by omega)
    have hfit:f+2 ^ k≤n:=by
     have:=hb _ (hx.2.1 (f+2 ^ k-1) ((lW _ _ _).2 ⟨by omega,by omega⟩));omega
    obtain ⟨i1,i2,i3⟩:=uI hb g (f+2 ^ k) (by omega) hc'
    refine ⟨fun b j=>?_,List.pairwise_cons.2 ⟨fun y hy=>?_,i2⟩,?_⟩
    ·rw [List.mem_cons,i1 b j]
     constructor
     ·rintro (h|⟨h,r,hr,hy⟩)
      ·cases h;exact ⟨Nat.le_refl _,q,hq,hx⟩
      ·exact ⟨by omega,r,hr,hy⟩
     ·rintro ⟨h,r,hr,hy⟩
      by_cases e:b=f
      ·have h1:f / 2 ^ k=q:=(lW _ _ _).2 ⟨by omega,by omega⟩
       have h2:f / 2 ^ j=r:=(lW _ _ _).2 ⟨by omega,by have:=Nat.two_pow_pos j;omega⟩
       obtain ⟨e1,e2⟩:=yY hx hy h1 h2
       subst e1;exact .inl (by rw [e])
      ·refine .inr ⟨?_,r,hr,hy⟩
       rcases hc' j r hy with a|a
       ·omega
       ·exfalso
        have h1:b / 2 ^ k=q:=(lW _ _ _).2 ⟨by omega,by have:=Nat.two_pow_pos j;omega⟩
        obtain ⟨e1,e2⟩:=yY hy hx (by rw [hr];exact bG j r) h1
        subst e1 e2;omega
    ·have:=((i1 y.1 y.2).1 hy).1
     show f<y.1
     omega
    ·have e:n-f=2 ^ k+(n-(f+2 ^ k)):=by omega
     rw [e,EG,MW U (2 ^ k) f (fun i hi=>hx.2.1 _ ((lW _ _ _).2 ⟨by omega,by omega⟩)),←i3]
     simp [size]
   |false=>
    rw [if_neg (by simp)]
    have hc':clean U (f+1):=by
     intro j m hy
     have hp:=Nat.two_pow_pos j
     rcases hc j m hy with a|a
     ·by_cases e:m*2 ^ j=f
      ·have:=hy.2.1 f (by rw [←e];exact bG j m)
       rw [hU] at this;cases this
      ·exact .inl (by omega)
     ·exact .inr (by omega)
    obtain ⟨i1,i2,i3⟩:=uI hb g (f+1) (by omega) hc'
    refine ⟨fun b j=>?_,i2,?_⟩
    ·rw [i1 b j]
     constructor
     ·rintro ⟨h,r⟩;exact ⟨by omega,r⟩
     ·rintro ⟨h,r,hr,hy⟩
      refine ⟨?_,r,hr,hy⟩
      by_cases e:b=f
      ·have:=hy.2.1 f (by rw [←e,hr];exact bG j r)
       rw [hU] at this;cases this
      ·omega
    ·rw [i3,show n-f=1+(n-(f+1)) by omega,EG]
     simp [cnt,hU]
  ·rw [if_neg hf]
   refine ⟨fun b k=>⟨fun h=>by simp at h,?_⟩,List.Pairwise.nil,by simp [size,show n-f=0 by omega,cnt]⟩
   rintro ⟨hf',q,rfl,hx⟩
   have:=hb _ (hx.2.1 _ (bG k q));omega
def blocks (U:Nat→Bool) (n:Nat):List (Nat×Nat):=scan U n n 0
theorem tZ {U:Nat→Bool}{n:Nat}(hb:∀f,U f=true→f<n) (b k:Nat):(b,k)∈blocks U n↔∃q,b=q*2 ^ k∧ug U k q:=by
 rw [blocks,(uI hb n 0 (by omega) (tY U)).1 b k];simp
theorem BC {U:Nat→Bool}{n:Nat}(hb:∀f,U f=true→f<n):(blocks U n).Pairwise (fun x y=>x.1<y.1):=
 (uI hb n 0 (by omega) (tY U)).2.1
theorem xO {U:Nat→Bool}{n:Nat}(hb:∀f,U f=true→f<n):size (blocks U n)=cnt U 0 n:=by
 simpa [blocks] using (uI hb n 0 (by omega) (tY U)).2.2
end Go.Proofs.YtippochapiolpaaGreatDoor
namespace Go.Proofs.YtippochapiolpaaGreatDoor
open Go.RowKit Go.Sort
structure Fr (A:Nat→Prop) (w w':World):Prop where
 os:w'.os=w.os
 tape:w'.tape=w.tape
 output:w'.output=w.output
 size:w.heap.size≤w'.heap.size
 block:∀i,i<w.heap.size→¬A i→w'.heap[i]? = w.heap[i]?
theorem Fr.refl (A:Nat→Prop) (w:World):Fr A w w:=⟨rfl,rfl,rfl,Nat.le_refl _,fun _ _ _=>rfl⟩
theorem Fr.trans {A B:Nat→Prop}{w w1 w2:World}(h:Fr A w w1) (k:Fr B w1 w2) (hB:∀i,i<w.heap.size→B i→A i):Fr A w w2:=
 ⟨k.os.trans h.os,k.tape.trans h.tape,k.output.trans h.output,Nat.le_trans h.size k.size,fun i hi hn=>(k.block i (Nat.lt_of_lt_of_le hi h.size) (fun hb=>hn (hB i hi hb))).trans (h.block i hi hn)⟩
theorem Fr.mono {A B:Nat→Prop}{w w1:World}(h:Fr A w w1) (hB:∀i,i<w.heap.size→A i→B i):Fr B w w1:=
 ⟨h.os,h.tape,h.output,h.size,fun i hi hn=>h.block i hi (fun a=>hn (hB i hi a))⟩
theorem Fr.grown {w w':World}{g:Nat}(h:w.grownBy w' (some g)):Fr (·=g) w w':=
 ⟨h.os,h.tape,h.output,h.size,fun i hi hn=>h.block i hi (fun e=>hn (Option.some.inj e))⟩
theorem Fr.alloc (A:Nat→Prop) (w:World) (o:Obj):Fr A w (w.alloc o):=
 ⟨rfl,rfl,rfl,by simp,fun i hi _=>Below.heap_alloc w o i hi⟩
theorem Fr.drewN (A:Nat→Prop) (w:World) (q:Nat):Fr A w (w.drewN q):=⟨rfl,rfl,rfl,Nat.le_refl _,fun _ _ _=>rfl⟩
theorem Fr.drew (A:Nat→Prop) (w:World):Fr A w w.drew:=⟨rfl,rfl,rfl,Nat.le_refl _,fun _ _ _=>rfl⟩
theorem Fr.setCell {A:Nat→Prop}{w w1:World}(h:Fr A w w1) (b o:Nat) (v:Value) (hb:b<w.heap.size→A b):Fr A w (w1.setCell ⟨b,o,none⟩ v):=
 ⟨h.os,h.tape,h.output,by simpa using h.size,fun i hi hn=>(Below.heap_setCell _ _ _ _ (fun e=>hn (by subst e;exact hb hi))).trans (h.block i hi hn)⟩
theorem Fr.setCells {A:Nat→Prop}{w:World}(b:Nat) (hb:b<w.heap.size→A b):∀(vs:List Value) (o:Nat) (w1:World),Fr A w w1→Fr A w (w1.setCells b o vs)
 | [],_,_,h=>h
 |v :: r,o,w1,h=>by rw [World.setCells];exact Fr.setCells b hb r (o+1) _ (h.setCell b o v hb)
theorem rQ (w:World) (s i:Nat) (f:Array Value→Array Value) (h:i≠s):(mapBlock w s f).heap[i]? = w.heap[i]? := by
 simp [mapBlock,Array.getElem?_modify,h.symm]
theorem mO (w:World) (s:Nat) (f:Array Value→Array Value) (c:Array Value) (t:TypeId) (fr:Nat×Nat) (h:w.heap[s]? = some (.cells c t fr)):(mapBlock w s f).heap[s]? = some (.cells (f c) t fr):=by
 simp [mapBlock,Array.getElem?_modify,h,onCells]
theorem Fr.mapBlock {A:Nat→Prop}{w w1:World}(h:Fr A w w1) (b:Nat) (f:Array Value→Array Value) (hb:b<w.heap.size→A b):Fr A w (mapBlock w1 b f):=
 ⟨h.os,h.tape,h.output,by simpa [Sort.mapBlock] using h.size,fun i hi hn=>(rQ _ _ _ _ (fun e=>hn (by subst e;exact hb hi))).trans (h.block i hi hn)⟩
theorem heap_setCell_same (w:World) (s o:Nat) (v:Value) (c:Array Value) (t:TypeId) (fr:Nat×Nat) (h:w.heap[s]? = some (.cells c t fr)):(w.setCell ⟨s,o,none⟩ v).heap[s]? = some (.cells (c.setIfInBounds o v) t fr):=by
 rw [setCell_eq];exact mO w s _ c t fr h
theorem dB (s:Nat) (t:TypeId) (fr:Nat×Nat):∀(vs:List Value) (o:Nat) (w:World) (c:Array Value),w.heap[s]? = some (.cells c t fr)→∃c',(w.setCells s o vs).heap[s]? = some (.cells c' t fr)∧c'.size=c.size
 | [],_,_,c,h=>⟨c,h,rfl⟩
 |v :: r,o,w,c,h=>by
  rw [World.setCells]
  obtain ⟨c',h1,h2⟩:=dB s t fr r (o+1) _ _ (heap_setCell_same w s o v c t fr h)
  exact ⟨c',h1,by rw [h2];simp⟩
def kF (w:World) (o:Option Nat) (v:Value) (xs:List Int):Prop:=
 match o with
 |none=>v=.slice none 0 0∧xs=[]
 |some s=>∃c:Array Value,w.heap[s]? = some (.cells c 3)∧v=.slice (some ⟨s,0,none⟩) xs.length c.size∧xs.length≤c.size∧c.size≤maxLen∧∀j,j<xs.length→c[j]? = some (.int .i64 (xs.getD j 0))
theorem kF.keep {w w':World}{o:Option Nat}{v:Value}{xs:List Int}(h:kF w o v xs) (hs:∀s,o=some s→w'.heap[s]? = w.heap[s]?):kF w' o v xs:=by
 cases o with
 |none=>exact h
 |some s=>
  obtain ⟨c,h1,h2⟩:=h
  exact ⟨c,(hs s rfl).trans h1,h2⟩
def pc (V:Nat→Value) (g:Nat):Array Value:=#[V 0,V 1,V 2,V 3,V 4,V 5,V 6,.map (some g)]
theorem aao (V:Nat→Value) (g k:Nat) (h:k<7):(pc V g)[k]? = some (V k):=by
 match k,h with
 |0,_|1,_|2,_|3,_|4,_|5,_|6,_=>rfl
def QU (V:Nat→Value) (k:Nat) (v:Value):Nat→Value:=fun j=>if j=k then v else V j
theorem aan (V:Nat→Value) (g k:Nat) (v:Value) (h:k<7):(pc V g).setIfInBounds k v=pc (QU V k v) g:=by
 match k,h with
 |0,_|1,_|2,_|3,_|4,_|5,_|6,_=>rfl
structure Pl (w:World) (b g:Nat) (O:Nat→Option Nat) (V:Nat→Value) (F:Nat→List Int):Prop where
 head:w.heap[b]? = some (.cells (pc V g) 158)
 row:∀k,k<7→kF w (O k) (V k) (F k)
 apart:∀j k s,j<7→k<7→O j=some s→O k=some s→j=k
def own (b:Nat) (O:Nat→Option Nat) (i:Nat):Prop:=i=b∨∃k,k<7∧O k=some i
theorem lt_of_heap {w:World}{i:Nat}{o:Obj}(h:w.heap[i]? = some o):i<w.heap.size:=(Array.getElem?_eq_some_iff.1 h).1
theorem Pl.gH {w:World}{b g:Nat}{O:Nat→Option Nat}{V:Nat→Value}{F:Nat→List Int}(p:Pl w b g O V F) {k s:Nat}(hk:k<7) (h:O k=some s):∃c,w.heap[s]? = some (.cells c 3):=by
 have:=p.row k hk
 rw [h] at this
 obtain ⟨c,h1,_⟩:=this
 exact ⟨c,h1⟩
theorem Pl.VI {w:World}{b g:Nat}{O:Nat→Option Nat}{V:Nat→Value}{F:Nat→List Int}(p:Pl w b g O V F) {k s:Nat}(hk:k<7) (h:O k=some s):s≠b:=by
 intro e;subst e
 obtain ⟨c,h1⟩:=p.gH hk h
 rw [p.head] at h1;cases h1
theorem Pl.Jr {w:World}{b g:Nat}{O:Nat→Option Nat}{V:Nat→Value}{F:Nat→List Int}(p:Pl w b g O V F) {i:Nat}(h:own b O i):i<w.heap.size:=by
 rcases h with rfl|⟨k,hk,h⟩
 ·exact lt_of_heap p.head
 ·obtain ⟨c,h1⟩:=p.gH hk h;exact lt_of_heap h1
theorem Pl.ym {w:World}{b g:Nat}{O:Nat→Option Nat}{V:Nat→Value}{F:Nat→List Int}(p:Pl w b g O V F) {s:Nat}{M:Int→Option Value}{g':Nat}(m:aK w g' s M):¬own b O g':=by
 obtain ⟨es,cl,hm⟩:=m.isMap
 rintro (rfl|⟨k,hk,h⟩)
 ·rw [p.head] at hm;cases hm
 ·obtain ⟨c,h1⟩:=p.gH hk h;rw [h1] at hm;cases hm
theorem Pl.keep {w w':World}{b g:Nat}{O:Nat→Option Nat}{V:Nat→Value}{F:Nat→List Int}(p:Pl w b g O V F) (h:∀i,own b O i→w'.heap[i]? = w.heap[i]?):Pl w' b g O V F:=
 ⟨(h b (.inl rfl)).trans p.head,fun k hk=>(p.row k hk).keep (fun s hs=>h s (.inr ⟨k,hk,hs⟩)),p.apart⟩
theorem Pl.cell {w:World}{b g:Nat}{O:Nat→Option Nat}{V:Nat→Value}{F:Nat→List Int}(p:Pl w b g O V F) {k:Nat}(hk:k<7):w.cell? ⟨b,k,none⟩=some (V k):=by
 rw [cell_of_row w b k _ _ _ p.head,aao V g k hk]
theorem Pl.free {w:World}{b g:Nat}{O:Nat→Option Nat}{V:Nat→Value}{F:Nat→List Int}(p:Pl w b g O V F) (k:Nat):w.frozen? ⟨b,k,none⟩=false:=by
 simp [World.frozen?,p.head]
theorem Pl.Zo {w:World}{b g:Nat}{O:Nat→Option Nat}{V:Nat→Value}{F:Nat→List Int}(p:Pl w b g O V F):w.cell? ⟨b,7,none⟩=some (.map (some g)):=by
 rw [cell_of_row w b 7 _ _ _ p.head];rfl
theorem kF.isSlice {w:World}{o:Option Nat}{v:Value}{xs:List Int}(h:kF w o v xs):∃a c,v=.slice a xs.length c∧xs.length≤c∧c≤maxLen:=by
 cases o with
 |none=>obtain ⟨rfl,rfl⟩:=h;exact ⟨none,0,rfl,Nat.le_refl _,by decide⟩
 |some s=>obtain ⟨c,_,rfl,h1,h2,_⟩:=h;exact ⟨_,_,rfl,h1,h2⟩
theorem Pl.turn {w w':World}{b g:Nat}{O:Nat→Option Nat}{V:Nat→Value}{F:Nat→List Int}(p:Pl w b g O V F) {k:Nat}(hk:k<7) (o:Option Nat) (v:Value) (xs:List Int)
 (hf:Fr (fun i=>O k=some i) w w') (ho:o=O k∨∃s,o=some s∧w.heap.size≤s) (hr:kF w' o v xs) :
 Pl (w'.setCell ⟨b,k,none⟩ v) b g (fun j=>if j=k then o else O j) (QU V k v) (nQ F k xs)∧Fr (own b O) w (w'.setCell ⟨b,k,none⟩ v)∧(∀i,i<w.heap.size→own b (fun j=>if j=k then o else O j) i→own b O i):=by
 have hbl:=lt_of_heap p.head
 have hbk:¬O k=some b:=fun e=>p.VI hk e rfl
 have hb':w'.heap[b]? = some (.cells (pc V g) 158):=(hf.block b hbl hbk).trans p.head
 have hob:o≠some b:=by
  rintro rfl
  rcases ho with e|⟨s,e,hs⟩
  ·exact hbk e.symm
  ·cases e;omega
 refine ⟨⟨by rw [heap_setCell_same w' b k v _ _ _ hb',aan V g k v hk],fun j hj=>?_,fun j1 j2 s h1 h2 e1 e2=>?_⟩,?_,?_⟩
 ·by_cases e:j=k
  ·subst e
   simp only [QU,nQ,if_pos]
   exact hr.keep (fun s hs=>Below.heap_setCell _ _ _ _ (fun e=>hob (by rw [hs,e])))
  ·simp only [QU,nQ,if_neg e]
   refine (p.row j hj).keep (fun s hs=>?_)
   obtain ⟨c,hc⟩:=p.gH hj hs
   rw [Below.heap_setCell _ _ _ _ (fun e=>p.VI hj hs e)]
   exact hf.block s (lt_of_heap hc) (fun e'=>e (p.apart j k s hj hk hs e'))
 ·by_cases c1:j1=k<;>by_cases c2:j2=k
  ·rw [c1,c2]
  ·rw [if_pos c1] at e1;rw [if_neg c2] at e2
   rcases ho with e|⟨s',e,hs⟩
   ·exact c1.trans (p.apart k j2 s hk h2 (e ▸ e1) e2)
   ·obtain ⟨c,hc⟩:=p.gH h2 e2
    have:=lt_of_heap hc
    rw [e] at e1;cases e1;omega
  ·rw [if_neg c1] at e1;rw [if_pos c2] at e2
   rcases ho with e|⟨s',e,hs⟩
   ·exact (p.apart j1 k s h1 hk e1 (e ▸ e2)).trans c2.symm
   ·obtain ⟨c,hc⟩:=p.gH h1 e1
    have:=lt_of_heap hc
    rw [e] at e2;cases e2;omega
  ·rw [if_neg c1] at e1;rw [if_neg c2] at e2
   exact p.apart j1 j2 s h1 h2 e1 e2
 ·exact (hf.mono (fun i _ h=>.inr ⟨k,hk,h⟩)).setCell b k v (fun _=>.inl rfl)
 ·rintro i hi (rfl|⟨j,hj,h⟩)
  ·exact .inl rfl
  ·by_cases c:j=k
   ·replace h:o=some i:=by simpa [c] using h
    rcases ho with e|⟨s',e,hs⟩
    ·exact .inr ⟨k,hk,e ▸ h⟩
    ·rw [e] at h;cases h;omega
   ·exact .inr ⟨j,hj,by simpa [c] using h⟩
end Go.Proofs.YtippochapiolpaaGreatDoor

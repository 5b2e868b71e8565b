/- A process's first pages, and all of a kernel, as texts: plainly. -/
import Derived.Test.YtcfhanoekniaaaaGreatDoorZBuilder
import Derived.Test.YtcfhanoekniaaaaGreatDoorZRuns
import Derived.Lib.ItoaLen
import Derived.Deep.LoopGhost
import Derived.Test.YtcfhanoekniaaaaGreatDoorShelfN
import Derived.Deep.DeepCutAuto
import Derived.Deep.CutBlock
import Derived.Deep.RegionHeld3
set_option maxHeartbeats 16000000
set_option maxRecDepth 100000
namespace Go.Proofs.YtcfhanoekniaaaaGreatDoor
open Go.RowKit Go.Maps
def dX (P:PM) (D:Nat→Nat→Int) (i:Nat):List UInt8:=Lib.itoa (gI P D ((i / 8:Nat):Int) ((i % 8:Nat):Int)) ++ [44] ++ Lib.decDigits (eu P ((i / 8:Nat):Int) ((i % 8:Nat):Int) 1).toNat ++ [59]
def EI (P:PM) (D:Nat→Nat→Int) (n:Nat):List UInt8:=(List.range n).flatMap (dX P D)
theorem wX (P:PM) (D:Nat→Nat→Int) (n:Nat):EI P D (n+1)=EI P D n ++ dX P D n:=by unfold EI;rw [List.range_succ,List.flatMap_append];simp
def lN (D:Nat→Nat→Int):Prop:=∀f k,-9223372036854775808≤D f k∧D f k≤9223372036854775807
theorem lN.load {D:Nat→Nat→Int}(h:lN D) (P:PM) (a k:Int):-9223372036854775808≤gI P D a k∧gI P D a k≤9223372036854775807:=by
 unfold gI wd;split
 ·split
  ·omega
  ·exact h _ _
 ·omega
theorem xu (P:PM) (a k u:Int):0≤eu P a k u∧eu P a k u<100:=by
 unfold eu;split
 ·omega
 ·split
  ·split<;>omega
  ·omega
theorem dD {i:Nat}(hi:i<100):(Lib.decDigits i).length≤21:=by
 have:=Lib.itoa_length_le (i:Int) (by omega) (by omega)
 have e:Lib.itoa (i:Int)=Lib.decDigits i:=by unfold Lib.itoa;rw [if_neg (by omega)];rfl
 rw [e] at this;exact this
theorem IC {D:Nat→Nat→Int}(h:lN D) (P:PM) (i:Nat):(dX P D i).length≤44:=by
 have h1:=h.load P ((i / 8:Nat):Int) ((i % 8:Nat):Int)
 have h2:=Lib.itoa_length_le _ h1.1 h1.2
 have h3:=xu P ((i / 8:Nat):Int) ((i % 8:Nat):Int) 1
 have h4:=dD (i:=(eu P ((i / 8:Nat):Int) ((i % 8:Nat):Int) 1).toNat) (by omega)
 unfold dX;simp only [List.length_append,List.length_cons,List.length_nil];omega
theorem BJ {D:Nat→Nat→Int}(h:lN D) (P:PM):∀n,(EI P D n).length≤44*n
 |0=>by simp [EI]
 |n+1=>by rw [wX,List.length_append];have:=BJ h P n;have:=IC h P n;omega
def hA (S:KS) (p:Int):Nat:=match S.O p with|some o=>bI (aK S o.j) | none=>0
def hB (S:KS) (p:Int):Nat:=match S.O p with|some o=>gT (aK S o.j) | none=>0
def hC (S:KS) (p:Int):Nat:=match S.O p with|some o=>aj (ax S o.j) | none=>0
def hE (S:KS) (p:Int):Nat:=if (S.O p).isSome then 0 else 7
def hM (S:KS) (p:Int):List UInt8:=match S.O p with|some o=>EI (aK S o.j) S.W 48|none=>[]
def Ai (S:KS) (p:Int):List UInt8:=[124] ++ Lib.decDigits p.toNat ++ [32] ++ Lib.decDigits (gJ S.P p).toNat ++ [32] ++ Lib.decDigits (hA S p) ++ [32] ++ Lib.decDigits (hB S p) ++ [32] ++ Lib.decDigits (hC S p) ++ [32] ++ Lib.decDigits (hE S p)
def Ah (S:KS) (p:Int):List UInt8:=Ai S p ++ hM S p
def vQ (S:KS) (but p:Int):List UInt8:=if p=but then [] else Ah S p
def oh (S:KS) (no nt:Nat) (but:Int):List UInt8:=if 0<but then [] else Lib.decDigits (S.n-used (kM S.Ms) S.n) ++ [32] ++ Lib.decDigits no ++ [32] ++ Lib.decDigits nt
def dJ (S:KS) (no nt:Nat) (but:Int) (j:Nat):List UInt8:=oh S no nt but ++ ((ah S.P).take j).flatMap (vQ S but)
def allT (S:KS) (no nt:Nat) (but:Int):List UInt8:=dJ S no nt but (ah S.P).length
theorem yl {S:KS}{no nt:Nat}{but:Int}{j:Nat}(h:j<(ah S.P).length):dJ S no nt but (j+1)=dJ S no nt but j ++ vQ S but (ah S.P)[j]:=by
 unfold dJ
 rw [List.take_succ_eq_append_getElem h,List.flatMap_append,List.append_assoc]
 simp
theorem NF {S:KS}(hD:lN S.W) {p:Int}(hp:p.toNat<100) (hs:(gJ S.P p).toNat<100) (ht:∀o,S.O p=some o→aj (ax S o.j)≤8):(Ai S p).length≤132∧(Ah S p).length≤2300:=by
 have h1:=dD (i:=p.toNat) hp
 have h2:=dD (i:=(gJ S.P p).toNat) hs
 have hA':hA S p<100:=by
  unfold hA;split
  ·rename_i o _;have:=ni (aK S o.j);omega
  ·omega
 have hB':hB S p<100:=by
  unfold hB;split
  ·rename_i o _;have:=H6 (aK S o.j);omega
  ·omega
 have hC':hC S p<100:=by
  unfold hC;split
  ·have:=ht _ (by assumption);omega
  ·omega
 have hE':hE S p<100:=by unfold hE;split<;>omega
 have h3:=dD hA'
 have h4:=dD hB'
 have h5:=dD hC'
 have h6:=dD hE'
 have h7:(hM S p).length≤44*48:=by
  unfold hM;split
  ·exact BJ hD _ 48
  ·simp
 have h8:(Ai S p).length≤132:=by
  unfold Ai;simp only [List.length_append,List.length_cons,List.length_nil];omega
 exact ⟨h8,by unfold Ah;rw [List.length_append];omega⟩
end Go.Proofs.YtcfhanoekniaaaaGreatDoor
namespace Go.Proofs.YtcfhanoekniaaaaGreatDoor
structure Vw (S S':KS):Prop where
 n:S'.n=S.n
 ms:kM S'.Ms=kM S.Ms
 e:∀x,(S'.D.E x).isSome=(S.D.E x).isSome
 t:∀x,(S'.D.T x).isSome=(S.D.T x).isSome
 jg:ah S'.P=ah S.P
 st:∀x,gJ S'.P x=gJ S.P x
 o:∀x,(S.O x=none∧S'.O x=none)∨∃o o',S.O x=some o∧S'.O x=some o'∧aK S' o'.j=aK S o.j∧aj (ax S' o'.j)=aj (ax S o.j)
 w:S'.W=S.W
section
variable {S S':KS}{p a b c k v:Int}{s t:List UInt8}{o:Ow}{no nt:Nat}
theorem Vw.refl (S:KS):Vw S S:=⟨rfl,rfl,fun _=>rfl,fun _=>rfl,rfl,fun _=>rfl,fun x=>by
 cases h:S.O x with
 |none=>exact .inl ⟨rfl,rfl⟩
 |some o=>exact .inr ⟨o,o,rfl,rfl,rfl,rfl⟩,rfl⟩
theorem Vw.procs {P':Ps}(hp:ah P'=ah S.P) (hs:∀x,gJ P' x=gJ S.P x):Vw S (S.procs P'):=
 ⟨rfl,rfl,fun _=>rfl,fun _=>rfl,hp,hs,fun x=>by
  cases h:S.O x with
  |none=>exact .inl ⟨rfl,h⟩
  |some o1=>exact .inr ⟨o1,o1,rfl,h,rfl,rfl⟩,rfl⟩
theorem Xk {P:Ps}{n:Int}{f:Pr→Pr}(hf:∀q,(f q).state=q.state) (x:Int):gJ (qV P n f) x=gJ P x:=by
 unfold gJ qV
 by_cases e:x=n
 ·subst e
  cases h:P x with
  |none=>simp
  |some q=>simp [hf]
 ·simp [e]
theorem Rq (S:KS) (n sig:Int):Vw S (S.procs (if fF S.P n sig=0 then jV S.P n sig else S.P)):=by
 split
 ·refine Vw.procs ?_ (fun x=>?_)
  ·unfold jV;exact Q3 _ _ _
  ·unfold jV;exact Xk (fun q=>by split<;>rfl) x
 ·exact .refl S
theorem VU {P:Ps}{n:Int}(h:(bO P n).2.2.1≠0):(bO P n).2.2.2=P:=by
 unfold bO at h ⊢
 split
 ·rfl
 ·rename_i h1
  rw [if_neg h1] at h
  split
  ·rename_i x hx
   rw [hx] at h
   exact absurd rfl h
  ·rfl
end
section
variable {w:World}{m:Int}{H:KH}{S S':KS}{q:Nat}{A:Nat→Prop}{p a b c:Int}{s t:List UInt8}{o:Ow}
theorem yw.I4 {n:Nat}{P P':PM}{f:Int→Nat}{D D':Nat→Nat→Int}{a k v er:Int}(h:yw n P f D a k v er P' D') (hD:lN D) (hv:-9223372036854775808≤v∧v≤9223372036854775807):lN D':=by
 have hu:∀D0:Nat→Nat→Int,lN D0→∀i j,lN (upd D0 i j v):=fun D0 h0 i j x y=>by
  unfold upd
  split
  ·exact hv
  ·exact h0 x y
 rcases h with ⟨_,_,_,rfl⟩|⟨_,_,_,_,_,rfl⟩|⟨_,_,_,_,_,rfl⟩|⟨_,_,x,_,_,_,_,rfl⟩
 ·exact hD
 ·exact hu _ hD _ _
 ·exact hD
 ·refine hu _ (fun i j=>?_) _ _
  unfold row fM
  split
  ·split
   ·omega
   ·exact hD _ _
  ·exact hD _ _
theorem fD.I4 {S S':KS}{p a:Int}{went:List Int}{er k v:Int}(r:fD p a k v S went er S') (hD:lN S.W) (hv:-9223372036854775808≤v∧v≤9223372036854775807):lN S'.W:=by
 induction r with
 |done ho h h12=>exact h.I4 hD hv
 |nobody ho h hv=>exact hD
 |self ho h hv he=>exact hD
 |goes ho h hv he hx h1 hne r ih=>exact ih hD
theorem aX.I4 {S S':KS}{p a b c:Int}{s t:List UInt8}{W e:Int}(r:aX S p a b c s t W e S') (hD:lN S.W) (hv:-9223372036854775808≤c∧c≤9223372036854775807):lN S'.W:=by
 cases r with
 |nobody ho hW=>exact hD
 |other hW=>exact hD
 |full hW ho hc=>exact hD
 |fork hW ho hc=>exact hD
 |exit ho=>unfold oz;split<;>exact hD
 |exec ho=>exact hD
 |wait ho=>exact hD
 |map hW ho=>unfold jA;split<;>exact hD
 |vS ho=>exact hD
 |store hW ho r=>exact r.I4 hD hv
 |file hW ho hn hk r=>
  rcases r with ⟨_,_,_,rfl⟩|⟨_,_,_,_,rfl⟩<;>exact hD
 |pipe ho hn r=>
  rcases r with ⟨_,_,_,_,rfl⟩|⟨_,_,_,_,rfl⟩<;>exact hD
 |dup ho=>unfold rf;split<;>exact hD
 |dup2 ho=>unfold iH;split<;>exact hD
 |close ho=>exact hD
 |write ho=>unfold jb;split<;>exact hD
 |read ho=>exact hD
 |limit ho=>exact hD
 |kill ho=>exact hD
 |signal ho h1 hs=>exact hD
 |quiet ho hs=>exact hD
 |first ho h1=>exact hD
 |GN ho hk r=>exact hD
 |unlink ho=>exact hD
 |rename ho=>exact hD
 |o6 ho=>exact hD
 |mark yes ho=>exact hD
 |AX ho=>unfold uC;split<;>exact hD
end
structure Vp (S S':KS) (p:Int):Prop where
 jg:ah S'.P=ah S.P
 st:∀x,gJ S'.P x=gJ S.P x
 o:∀x,x≠p→(S.O x=none∧S'.O x=none)∨∃o o',S.O x=some o∧S'.O x=some o'∧aK S' o'.j=aK S o.j∧aj (ax S' o'.j)=aj (ax S o.j)∧∀a k,gI (aK S o.j) S'.W a k=gI (aK S o.j) S.W a k
section
variable {S S':KS}{p a b c k v:Int}{s t:List UInt8}{o:Ow}{no nt:Nat}
theorem Vp.refl (S:KS) (p:Int):Vp S S p:=⟨rfl,fun _=>rfl,fun x _=>by
 cases h:S.O x with
 |none=>exact .inl ⟨rfl,rfl⟩
 |some o=>exact .inr ⟨o,o,rfl,rfl,rfl,rfl,fun _ _=>rfl⟩⟩
theorem Vw.vp (h:Vw S S') (p:Int):Vp S S' p:=⟨h.jg,h.st,fun x _=>by
 rcases h.o x with h1|⟨o,o',h1,h2,h3,h4⟩
 ·exact .inl h1
 ·exact .inr ⟨o,o',h1,h2,h3,h4,fun _ _=>by rw [h.w]⟩⟩
theorem Vp.row (h:Vp S S' p) {x:Int}(hx:x≠p):Ah S' x=Ah S x:=by
 unfold Ah Ai hA hB hC hE hM
 rw [h.st x]
 rcases h.o x hx with ⟨h1,h2⟩|⟨o,o',h1,h2,h3,h4,h5⟩
 ·rw [h1,h2]
 ·rw [h1,h2]
  have he:dX (aK S o.j) S'.W=dX (aK S o.j) S.W:=by funext i;unfold dX;rw [h5]
  have hb:EI (aK S o.j) S'.W 48=EI (aK S o.j) S.W 48:=by unfold EI;rw [he]
  simp only [h3,h4,hb,Option.isSome_some]
theorem Vp.all (h:Vp S S' p) (h0:0<p) (no' VI:Nat):allT S' no' VI p=allT S no nt p:=by
 have hb:vQ S' p=vQ S p:=by
  funext x
  unfold vQ
  split
  ·rfl
  ·rename_i hx;exact h.row hx
 unfold allT dJ oh
 rw [h.jg,hb,if_pos h0,if_pos h0]
theorem Vp.files (l:PW S) (ho:S.O p=some o) (D':DS) (N':Ns):Vp S (S.files D' o.j N') p:=
 ⟨rfl,fun _=>rfl,fun x hx=>by
  cases h:S.O x with
  |none=>exact .inl ⟨rfl,h⟩
  |some o1=>exact .inr ⟨o1,o1,rfl,h,rfl,by
   rw [fo (l.lt _ _ ho),if_neg (fun e=>hx (l.inj _ _ _ _ h ho e))],fun _ _=>rfl⟩⟩
theorem Vp.space (l:PW S) (ho:S.O p=some o) (P':PM):Vp S (S.space o.j P' S.W) p:=
 ⟨rfl,fun _=>rfl,fun x hx=>by
  cases h:S.O x with
  |none=>exact .inl ⟨rfl,h⟩
  |some o1=>exact .inr ⟨o1,o1,rfl,h,by
   rw [dM (by rw [l.len];exact l.lt _ _ ho),if_neg (fun e=>hx (l.inj _ _ _ _ h ho e))],rfl,fun _ _=>rfl⟩⟩
theorem Vp.own (o':Ow):Vp S (S.own p o') p:=
 ⟨rfl,fun _=>rfl,fun x hx=>by
  cases h:S.O x with
  |none=>exact .inl ⟨rfl,by show jI S.O p o' x=none;rw [fG hx];exact h⟩
  |some o1=>exact .inr ⟨o1,o1,rfl,by show jI S.O p o' x=some o1;rw [fG hx];exact h,rfl,rfl,fun _ _=>rfl⟩⟩
theorem Vp.tree (T':Wd):Vp S (S.tree T') p:=
 ⟨rfl,fun _=>rfl,fun x _=>by
  cases h:S.O x with
  |none=>exact .inl ⟨rfl,h⟩
  |some o1=>exact .inr ⟨o1,o1,rfl,h,rfl,rfl,fun _ _=>rfl⟩⟩
theorem Vp.trans {S2:KS}(h:Vp S S' p) (h2:Vp S' S2 p):Vp S S2 p:=
 ⟨h2.jg.trans h.jg,fun x=>(h2.st x).trans (h.st x),fun x hx=>by
  rcases h.o x hx with ⟨h3,h4⟩|⟨o,o1,h3,h4,h5,h6,h7⟩
  ·rcases h2.o x hx with ⟨h8,h9⟩|⟨o2,o3,h8,_⟩
   ·exact .inl ⟨h3,h9⟩
   ·rw [h4] at h8;cases h8
  ·rcases h2.o x hx with ⟨h8,h9⟩|⟨o2,o3,h8,h9,h10,h11,h12⟩
   ·rw [h4] at h8;cases h8
   ·rw [h4] at h8
    cases h8
    exact .inr ⟨o,o3,h3,h9,h10.trans h5,h11.trans h6,fun a k=>by rw [h5] at h12;exact (h12 a k).trans (h7 a k)⟩⟩
theorem ML:∀ {L:List Nat}{i j:Nat}(hi:i<L.length) (hj:j<L.length),i≠j→L[i]+L[j]≤L.sum
 |x :: L,0,0,_,_,h=>absurd rfl h
 |x :: L,0,j+1,_,hj,_=>by
  have:=Bj (List.getElem_mem (show j<L.length by simpa using hj))
  rw [List.sum_cons,List.getElem_cons_zero,List.getElem_cons_succ];omega
 |x :: L,i+1,0,hi,_,_=>by
  have:=Bj (List.getElem_mem (show i<L.length by simpa using hi))
  rw [List.sum_cons,List.getElem_cons_zero,List.getElem_cons_succ];omega
 |x :: L,i+1,j+1,hi,hj,h=>by
  have:=ML (L:=L) (i:=i) (j:=j) (by simpa using hi) (by simpa using hj) (by omega)
  rw [List.sum_cons,List.getElem_cons_succ,List.getElem_cons_succ];omega
theorem Uz {i j:Nat}(hi:i<S.Ms.length) (hj:j<S.Ms.length) (h:i≠j) (f:Int):sh (aK S i) f≤mX S j f:=by
 have:=ML (L:=S.Ms.map fun P=>sh P f) (i:=i) (j:=j) (by simpa using hi) (by simpa using hj) h
 simp only [List.getElem_map] at this
 unfold mX kM
 rw [vT hi,vT hj];omega
theorem yw.QZ {n n':Nat}{P P':PM}{f:Int→Nat}{D D':Nat→Nat→Int}{er:Int}(hok:lQ n' P) (h:yw n P f D a k v er P' D') (g:Nat) (hf:f (g:Int)≠0) (j:Nat):D' g j=D g j:=by
 rcases h with ⟨_,_,_,rfl⟩|⟨_,h1,h2,_,_,rfl⟩|⟨_,_,_,_,_,rfl⟩|⟨_,_,x,hg1,hg2,_,_,rfl⟩
 ·rfl
 ·have hp:=sQ hok h1
  have hfr:0≤bZ P a:=by rcases hok.frame a with e|e;exact absurd e h1;exact e.1
  have hne:g≠(bZ P a).toNat:=fun e=>by
   have:((g:Nat):Int)=bZ P a:=by omega
   rw [this] at hf;omega
  simp [upd,hne]
 ·rfl
 ·have hne:g≠x:=fun e=>by subst e;omega
  simp [upd,row,hne]
theorem Ke {n:Nat}{Q:PM}{D D':Nat→Nat→Int}(hok:lQ n Q) (h:∀f:Nat,sh Q (f:Int)≠0→∀j,D' f j=D f j) (a k:Int):gI Q D' a k=gI Q D a k:=by
 unfold gI wd
 split
 ·by_cases e:bZ Q a=-1
  ·rw [if_pos e,if_pos e]
  ·rw [if_neg e,if_neg e]
   have hp:=sQ hok e
   have hfr:0≤bZ Q a:=by rcases hok.frame a with e' | e';exact absurd e' e;exact e'.1
   refine h _ ?_ _
   rw [show (((bZ Q a).toNat:Nat):Int)=bZ Q a by omega];omega
 ·rfl
theorem yw.vp {er:Int}{P':PM}{D':Nat→Nat→Int}(l:PW S) (hP:∀x o,S.O x=some o→∃n,lQ n (aK S o.j)) (ho:S.O p=some o) (h:yw S.n (aK S o.j) (mX S o.j) S.W a k v er P' D'):Vp S (S.space o.j P' D') p:=
 ⟨rfl,fun _=>rfl,fun x hx=>by
  cases h1:S.O x with
  |none=>exact .inl ⟨rfl,h1⟩
  |some o1=>
   have hne:o1.j≠o.j:=fun e=>hx (l.inj _ _ _ _ h1 ho e)
   refine .inr ⟨o1,o1,rfl,h1,by rw [dM (by rw [l.len];exact l.lt _ _ ho),if_neg hne],rfl,fun b kk=>?_⟩
   obtain ⟨n1,ok1⟩:=hP x o1 h1
   obtain ⟨n2,ok2⟩:=hP p o ho
   refine Ke ok1 (fun f hf j=>?_) b kk
   have:=Uz (S:=S) (i:=o1.j) (j:=o.j) (by rw [l.len];exact l.lt _ _ h1) (by rw [l.len];exact l.lt _ _ ho) hne (f:Int)
   exact h.QZ ok2 f (by omega) j⟩
theorem cnt_lt {f g:Int→Bool}(h:∀y,f y=true→g y=true):∀ {L:List Int}{x:Int},x∈L→f x=false→g x=true→L.countP f<L.countP g
 |y :: L,x,hx,h0,h1=>by
  rw [List.countP_cons,List.countP_cons]
  have hm:L.countP f≤L.countP g:=List.countP_mono_left (fun y _ hy=>h y hy)
  rcases List.mem_cons.1 hx with rfl|hx
  ·rw [h0,h1,if_neg (by simp),if_pos rfl];omega
  ·have:=cnt_lt h hx h0 h1
   cases hy:f y with
   |true=>rw [h y hy];simp only [if_true];omega
   |false=>rw [if_neg (by simp)];split<;>omega
theorem Db (kk:oW S) (Cr:∀x,(S.P x).isSome=true→1≤x∧x≤24) {x:Int}{ox:Ow}(hx:S.O x=some ox) (c:Int):iN (df S x ox c)<iN S:=by
 have hr:ay S.P x=true:=by rw [←kk.run x,hx];rfl
 have h1:=NA hr
 have h2:=Ut kk hx c
 have hp:ah (df S x ox c).P=ah S.P:=by
  show ah (dz S.P x c)=_
  unfold ah dz
  simp
 have hm:x∈ah S.P:=by
  obtain ⟨q,hq,_⟩:=bY.1 hr
  have:=Cr x (by rw [hq];rfl)
  unfold ah
  rw [List.mem_filter]
  exact ⟨List.mem_map.2 ⟨(x-1).toNat,List.mem_range.2 (by omega),by omega⟩,by rw [hq];rfl⟩
 unfold iN qw
 rw [hp,←List.countP_eq_length_filter,←List.countP_eq_length_filter]
 refine cnt_lt (fun y hy=>?_) hm (by simp [h2]) (by simp [h1])
 simp only [beq_iff_eq] at hy ⊢
 have hy:gJ (dz S.P x c) y=1:=hy
 rw [rQ] at hy
 split at hy
 ·omega
 ·exact hy
theorem QW (Cr:∀x,(S.P x).isSome=true→1≤x∧x≤24) (x:Int) (ox:Ow) (c:Int):∀y,((df S x ox c).P y).isSome=true→1≤y∧y≤24:=fun y hy=>by
 have hy:((S.P y).map (jX x c y)).isSome=true:=hy
 rw [Option.isSome_map] at hy
 exact Cr y hy
theorem fD.runs {went:List Int}{er:Int}(r:fD p a k v S went er S') (l:PW S) (kk:oW S) (Cr:∀x,(S.P x).isSome=true→1≤x∧x≤24):(went=[]→S'.P=S.P∧S'.O=S.O)∧(went≠[]→iN S'<iN S):=by
 induction r with
 |done ho h h12=>exact ⟨fun _=>⟨rfl,rfl⟩,fun h=>absurd rfl h⟩
 |nobody ho h hv=>exact ⟨fun _=>⟨rfl,rfl⟩,fun h=>absurd rfl h⟩
 |self ho h hv he=>exact ⟨fun h=>(by cases h),fun _=>Db kk Cr ho 108⟩
 | @goes S o x ox went er S' ho h hv he hx h1 hne r ih=>
  refine ⟨fun h=>(by cases h),fun _=>?_⟩
  have XM:=l.lt _ _ hx
  have k1:oW (df S x ox 108):=kk.ends hx XM l.len (fun p' o' hp' e=>l.inj _ _ _ _ hp' hx e) 108
  have i:=ih (l.ends 108) k1 (QW Cr x ox 108)
  have h3:=Db kk Cr hx 108
  by_cases e:went=[]
  ·have:=(i.1 e).1
   unfold iN at h3 ⊢
   rw [this];exact h3
  ·have:=i.2 e;omega
theorem fD.vp {went:List Int}{er:Int}(r:fD p a k v S went er S') (l:PW S) (hP:∀x o,S.O x=some o→∃n,lQ n (aK S o.j)) (hw:went=[]):Vp S S' p:=by
 cases r with
 |done ho h h12=>exact h.vp l hP ho
 |nobody ho h hv=>exact .refl S p
 |self ho h hv he=>cases hw
 |goes ho h hv he hx h1 hne r=>cases hw
theorem Rs (S:KS) (p sig:Int):Vp S (S.procs (if fF S.P p sig=0 then jV S.P p sig else S.P)) p:=(Rq S p sig).vp p
end
section
variable {w:World}{m:Int}{H:KH}{S S':KS}{q:Nat}{A:Nat→Prop}{p a b c:Int}{s t:List UInt8}{o:Ow}
theorem KN.Zc (hn:KN w m H S q A):∀x o,S.O x=some o→∃n,lQ n (aK S o.j):=fun x o hx=>
 hn.1.XH (hn.lie.lt x o hx) (fun _ _ _ _ vs=>⟨_,vs.ok⟩)
theorem KN.p24 (hn:KN w m H S q A):∀x,(S.P x).isSome=true→1≤x∧x≤24:=fun x hx=>by
 obtain ⟨⟨G,g,_⟩,_⟩:=hn
 obtain ⟨c,qj⟩:=g.qj
 obtain ⟨r,hr⟩:=Option.isSome_iff_exists.1 hx
 have:=qj.key x r hr
 exact ⟨this.1,this.2⟩
theorem aX.apart {W e:Int}(r:aX S p a b c s t W e S') (hn:KN w m H S q A) (hW:¬(W<3∨W=4∨W=20∨W=21)) (hr:iN S'=iN S):Vp S S' p:=by
 have l:=hn.lie
 cases r with
 |nobody ho hW=>exact .refl S p
 |other hW=>exact .refl S p
 |full hW' ho hc=>omega
 |fork hW' ho hc=>omega
 |exit ho=>omega
 | @exec o ho=>
  exact (Vp.space l ho kL).trans (Vp.files (S:=S.space o.j kL S.W) ⟨by show (S.Ms.set _ _).length=S.Ts.length;rw [List.length_set];exact l.len,l.lt,l.inj⟩ ho _ _)
 |wait ho=>omega
 |map hW' ho=>
  unfold jA
  split
  ·exact .space l ho _
  ·exact .refl S p
 |vS ho=>exact .space l ho _
 | @store _ o went er S2 hW' ho r=>
  have h1:=r.runs l hn.2 hn.p24
  by_cases e:went=[]
  ·exact r.vp l hn.Zc e
  ·have:=h1.2 e;omega
 |file hW' ho hn' hk r=>
  rcases r with ⟨_,_,_,rfl⟩|⟨_,D',N',_,rfl⟩
  ·exact .refl _ p
  ·exact .files l ho _ _
 |pipe ho hn' r=>
  rcases r with ⟨_,_,_,_,rfl⟩|⟨_,D',N',_,rfl⟩
  ·exact .refl _ p
  ·exact .files l ho _ _
 |dup ho=>
  unfold rf
  split
  ·exact .files l ho _ _
  ·exact .refl S p
 |dup2 ho=>
  unfold iH
  split
  ·exact .files l ho _ _
  ·exact .refl S p
 |close ho=>exact .files l ho _ _
 | @write o ho=>
  have h1:Vp S (S.files (Cm S o a s).2.2 o.j (ax S o.j)) p:=.files l ho _ _
  unfold jb
  split
  ·exact h1.trans (Rs (S.files (Cm S o a s).2.2 o.j (ax S o.j)) p 5)
  ·exact h1
 |read ho=>exact .files l ho _ _
 |limit ho=>exact .own _
 |kill ho=>omega
 |signal ho h1 hs=>omega
 |quiet ho hs=>exact .refl S p
 |first ho h1=>omega
 |GN ho hk r=>exact .tree _
 |unlink ho=>exact .tree _
 |rename ho=>exact .tree _
 |o6 ho=>exact .space l ho _
 |mark yes ho=>exact .files l ho _ _
 |AX ho=>
  unfold uC
  split
  ·exact .own _
  ·exact .refl S p
end
end Go.Proofs.YtcfhanoekniaaaaGreatDoor
namespace Go.Proofs.YtcfhanoekniaaaaGreatDoor
open Go.RowKit Go.Maps
section
variable {w0 w w':World}{m:Int}{kb q:Nat}{C:LW}{S:KS}{p:Int}{o:Ow}
def memT (S:KS) (o:Ow):List UInt8:=EI (aK S o.j) S.W 48
theorem KC.memory (h:KC w0 w m kb C S q) (ho:S.O p=some o) (hD:lN S.W) (hp:Pow w) :
 Calls Tryz.prog 106 #[wp kb,.int .i64 p] w fun e w'=>e=.returned (.string ⟨(memT S o).toArray⟩)∧Below w.heap.size w w':=by
 have hgl:0<w.heap.size:=World.block_lt_of_cell? w _ h.er
 have hg:=h.er
 have hgw:∀w',Below w.heap.size w w'→w'.cell? ⟨0,0,none⟩=some fC:=fun w' h=>by rw [h.cell (p:=⟨0,0,none⟩) hgl];exact hg
 have YM:=fun wx (hbx:Below w.heap.size w wx) (a k:Int) ha=>(h.below hbx).load ho a k ha
 unfold memT
 generalize aK S o.j=P at *
 generalize S.W=D at *
 have hI0:=Lib.fresh_isBuilder 302 5 w
 have hB0:Below w.heap.size w (w.alloc (.cells #[.pointer none,.slice none 0 0] 302)):=(Below.refl _ w).alloc (Nat.le_refl _) _
 clear h ho hg
 go_enter Tryz.func106,Tryz.ntmps106
 go_wp2_with fail
 go_loopg [6,7,8,9] 6 (fun mm s6 _ _ _ wr=>∃a:Nat,a+mm=6∧s6=.int .i64 (a:Int)∧Lib.IsBuilder 302 5 w.heap.size w.heap.size (Lib.byteCells (EI P D (a*8))) wr∧Below w.heap.size w wr)
 case atStart=>exact ⟨0,by omega,rfl,hI0,hB0⟩
 case round=>
  clear hI0 hB0
  obtain ⟨a,ha,rfl,hI,hB⟩:=hrel
  by_cases hlt:(a:Int)<6
  ·obtain ⟨G,hG⟩:∃G,gk=G:=⟨_,rfl⟩
   rw [hG] at ha
   go_wp2_with fail
   go_loopg [7,8,9] 8 (fun mm s7 _ _ wi=>∃k:Nat,k+mm=8∧s7=.int .i64 (k:Int)∧Lib.IsBuilder 302 5 w.heap.size w.heap.size (Lib.byteCells (EI P D (a*8+k))) wi∧Below w.heap.size w wi)
   case atStart=>exact ⟨0,by omega,rfl,hI,hB⟩
   case round=>
    clear hI hB
    obtain ⟨k,hk,rfl,hI,hB⟩:=hrel
    by_cases hlk:(k:Int)<8
    ·have hld:=YM _ hB (a:Int) (k:Int) (yz (by omega))
     have hb1:=hD.load P (a:Int) (k:Int)
     have hb2:=xu P (a:Int) (k:Int) 1
     have hnx:=wX P D (a*8+k)
     have hen:dX P D (a*8+k)=Lib.itoa (gI P D (a:Int) (k:Int)) ++ [44] ++ Lib.decDigits (eu P (a:Int) (k:Int) 1).toNat ++ [59]:=by
      unfold dX;rw [show (a*8+k) / 8=a by omega,show (a*8+k) % 8=k by omega]
     have hbl:=BJ hD P (a*8+k)
     have hel:=IC hD P (a*8+k)
     rw [hen] at hnx hel
     obtain ⟨er,her⟩:∃er:Nat,eu P (a:Int) (k:Int) 1=(er:Int):=⟨(eu P (a:Int) (k:Int) 1).toNat,by omega⟩
     rw [her] at hld hb2 hnx hel
     rw [Int.toNat_natCast] at hnx hel
     generalize gI P D (a:Int) (k:Int)=V at *
     generalize hbs:EI P D (a*8+k)=bs at *
     have hF:=fun wx (hbx:Below w.heap.size w wx)=>F9 V hb1.1 hb1.2 wx (hp.below hbx)
     have hT:=fun wx (hbx:Below w.heap.size w wx)=>mf (er:Int) wx (hgw wx hbx)
     have hIt:=bX er (by omega)
     have hstr:((⟨(Lib.itoa V).toArray⟩:ByteArray) ++ ⟨#[44]⟩ ++ ⟨(Lib.decDigits er).toArray⟩ ++ ⟨#[59]⟩:ByteArray)=⟨(Lib.itoa V ++ [44] ++ Lib.decDigits er ++ [59]).toArray⟩:=by
      apply ByteArray.ext;simp
     have hl1:=Lib.itoa_length_le V hb1.1 hb1.2
     have hl2:=dD (i:=er) (by omega)
     generalize (Lib.itoa V ++ [44] ++ Lib.decDigits er ++ [59])=S9 at *
     have hlenS:bs.length+S9.length≤1000000:=by omega
     generalize Lib.itoa V=S1 at *
     generalize Lib.decDigits er=S2 at *
     have hc1:¬9223372036854775807<S1.length+1:=by omega
     have hc2:¬9223372036854775807<S1.length+1+S2.length:=by omega
     have hc3:¬9223372036854775807<S1.length+1+S2.length+1:=by omega
     clear hD hel hbl hb1 hen her YM
     go_wp2_with fail
     refine hld.mono ?_
     rintro e w1 ⟨rfl,b1⟩
     have hI1:=jw hI b1
     have hB1:=hB.trans (b1.mono hB.size)
     go_wp2_with fail
     refine (hF _ hB1).mono ?_
     rintro e w2 ⟨rfl,b2⟩
     have hI2:=jw hI1 b2
     have hB2:=hB1.trans (b2.mono hB1.size)
     go_wp2_with fail
     refine (hT _ hB2).mono ?_
     rintro e w3 ⟨rfl,b3⟩
     have XZ:=jw hI2 b3
     have hB3:=hB2.trans (b3.mono hB2.size)
     go_wp2_with fail
     refine (hIt _).mono ?_
     rintro e w4 ⟨rfl,h4⟩
     subst w4
     go_wp2_with fail
     refine (Fs _ _ bs S9 w3 XZ hlenS hB3.size).mono ?_
     rintro e w5 ⟨u,rfl,hI5,b5⟩
     go_wp2_with fail
     go_roundg (8-(k+1))
     case measure=>omega
     case rel=>exact ⟨k+1,by omega,by go_num,by rw [show a*8+(k+1)=a*8+k+1 by omega,hnx];exact hI5,hB3.trans b5⟩
    ·have hk8:k=8:=by omega
     subst hk8
     go_wp2_with fail
     go_roundg (6-(a+1))
     case measure=>omega
     case rel=>exact ⟨a+1,by omega,by go_num,by rw [show (a+1)*8=a*8+8 by omega];exact hI,hB⟩
  ·have ZH:a=6:=by omega
   subst ZH
   have hne:EI P D (6*8)≠[]:=by
    rw [show 6*8=47+1 from rfl,wX];simp [dX]
   have hTx:=Nt w.heap.size w.heap.size (EI P D (6*8)) wr hI hne
   clear hD YM hgw hp
   go_wp2_with fail
   refine hTx.mono ?_
   rintro e w1 ⟨rfl,b1⟩
   go_wp2_with fail
   go_ret
   exact ⟨rfl,hB.trans b1⟩
end
theorem lX (a b:List UInt8):((⟨a.toArray⟩:ByteArray) ++ ⟨b.toArray⟩)=⟨(a ++ b).toArray⟩:=by apply ByteArray.ext;simp
theorem qa (a:List UInt8):((⟨a.toArray⟩:ByteArray) ++ ⟨#[32]⟩)=⟨(a ++ [32]).toArray⟩:=by apply ByteArray.ext;simp
theorem TB (b:List UInt8):((⟨#[124]⟩:ByteArray) ++ ⟨b.toArray⟩)=⟨([124] ++ b).toArray⟩:=by apply ByteArray.ext;simp
section
variable {w0 w w':World}{m:Int}{kb q:Nat}{C:LW}{S:KS}{p:Int}{o:Ow}
theorem Below.UE {V w w':World}{n:Nat}(h:Below n V w') (e:V.heap=w.heap) (e1:V.os=w.os) (e2:V.tape=w.tape) (e3:V.output=w.output):Below n w w':=
 ⟨h.os.trans e1,h.tape.trans e2,h.output.trans e3,by rw [←e];exact h.size,fun i hi=>by rw [←e];exact h.block i hi⟩
theorem Below.next {V w w' v0:World}(h:Below V.heap.size V w') (h0:Below v0.heap.size v0 w) (e:V.heap=w.heap) (e1:V.os=w.os) (e2:V.tape=w.tape) (e3:V.output=w.output):Below v0.heap.size v0 w':=
 h0.trans ((Below.UE h e e1 e2 e3).mono (by rw [e];exact h0.size))
theorem KC.SL (h:KC w0 w m kb C S q) (o:Ow):aj (ax S o.j)≤8:=by
 obtain ⟨H,A,e,k,_⟩:=h
 exact tH (k.1.sJ o.j)
theorem KC.GM (h:KC w0 w m kb C S q) (hp:p∈ah S.P):1≤p∧p≤24∧(gJ S.P p=1∨gJ S.P p=2):=by
 obtain ⟨H,A,e,k,_⟩:=h
 obtain ⟨G,g,_⟩:=k.1
 obtain ⟨c,qj⟩:=g.qj
 obtain ⟨r,hr⟩:=Option.isSome_iff_exists.1 (qj.ok.jg.1 hp)
 have h1:=qj.key p r hr
 have h2:=qj.ok.st p r hr
 rw [iK hr]
 exact ⟨h1.1,h1.2,h2⟩
structure Qf (S:KS) (no nt:Nat) (but:Int) (L:List Int):Prop where
 jg:ah S.P=L
 row:∀p∈L,(Ai S p).length≤132∧(Ah S p).length≤2300
 head:(oh S no nt but).length≤70
theorem Qf.len {no nt:Nat}{but:Int}{L:List Int}(h:Qf S no nt but L):∀j,j≤L.length→(dJ S no nt but j).length≤70+2300*j
 |0,_=>by
  unfold dJ
  rw [List.take_zero,List.flatMap_nil,List.append_nil]
  exact h.head
 |j+1,hj=>by
  have sG:j<(ah S.P).length:=by rw [h.jg];omega
  rw [yl sG,List.length_append]
  have h1:=h.len j (by omega)
  have h2:(vQ S but (ah S.P)[j]).length≤2300:=by
   unfold vQ
   split
   ·simp
   ·exact (h.row _ (by rw [←h.jg];exact List.getElem_mem sG)).2
  omega
theorem Du (i:Nat):Lib.itoa (i:Int)=Lib.decDigits i:=by unfold Lib.itoa;rw [if_neg (by omega)];rfl
theorem IG {i:Nat}(hi:i<1000):(Lib.decDigits i).length≤21:=by
 have:=Lib.itoa_length_le (i:Int) (by omega) (by omega)
 rw [Du] at this;exact this
theorem Dv (i:Nat) (hi:i<1000) (w:World) (h:Pow w):Calls Tryz.prog 105 #[.int .i64 (i:Int)] w fun e w'=>e=.returned (.string ⟨(Lib.decDigits i).toArray⟩)∧Below w.heap.size w w':=by
 refine (Any.strconv_Itoa Tryz.itoaML (i:Int) (by omega) (by omega) w h).mono ?_
 rintro e w' ⟨rfl,k,os,rfl⟩
 rw [Du]
 exact ⟨rfl,below_grow w k os⟩
theorem KC.all (h:KC w0 w m kb C S q) (hD:lN S.W) (hp:Pow w) {no nt:Nat}(hno:qR S.D.E no) (hnt:di S.D.T nt) (but:Int) (hn:S.n<100) (ho1:no<1000) (ht1:nt<1000) :
 Calls Tryz.prog 32 #[wp kb,.int .i64 but] w fun e w'=>e=.returned (tx (allT S no nt but))∧Below w.heap.size w w':=by
 have hLe:=h.left
 have hOp:=h.opens hno
 have hNo:=fun W (b:Below w.heap.size w W)=>(h.below b).nodes hnt
 have Ue:=h.Mv
 have hI1:=fun W=>bX (S.n-used (kM S.Ms) S.n) (by omega) W
 have hI2:=Dv no ho1 w hp
 have XZ:=fun W (b:Below w.heap.size w W)=>Dv nt ht1 W (hp.below b)
 have l1:=dD (i:=S.n-used (kM S.Ms) S.n) (by omega)
 have l2:=IG ho1
 have l3:=IG ht1
 have HA0:Qf S no nt but (ah S.P):=by
  refine ⟨rfl,fun p hp=>?_,?_⟩
  ·obtain ⟨z1,z2,z3⟩:=h.GM hp
   exact NF hD (by omega) (by omega) (fun o _=>h.SL o)
  ·unfold oh
   split
   ·simp
   ·simp only [List.length_append,List.length_cons,List.length_nil];omega
 have HA:Aside (Qf S no nt but (ah S.P)):=HA0
 have HH:Aside (oh S no nt but=if 0<but then [] else Lib.decDigits (S.n-used (kM S.Ms) S.n) ++ [32] ++ Lib.decDigits no ++ [32] ++ Lib.decDigits nt):=rfl
 have HZ:Aside (dJ S no nt but 0=oh S no nt but):=by
  show dJ S no nt but 0=oh S no nt but
  unfold dJ;rw [List.take_zero,List.flatMap_nil,List.append_nil]
 generalize S.n-used (kM S.Ms) S.n=lf at *
 have hst:((⟨(Lib.decDigits lf).toArray⟩:ByteArray) ++ ⟨#[32]⟩ ++ ⟨(Lib.decDigits no).toArray⟩ ++ ⟨#[32]⟩ ++ ⟨(Lib.decDigits nt).toArray⟩:ByteArray)=⟨(Lib.decDigits lf ++ [32] ++ Lib.decDigits no ++ [32] ++ Lib.decDigits nt).toArray⟩:=by
  apply ByteArray.ext;simp
 generalize hTT:(Lib.decDigits lf ++ [32] ++ Lib.decDigits no ++ [32] ++ Lib.decDigits nt)=TT at *
 clear hTT
 generalize Lib.decDigits lf=T1 at *
 generalize Lib.decDigits no=T2 at *
 generalize Lib.decDigits nt=T3 at *
 have hc1:¬9223372036854775807<T1.length+1:=by omega
 have hc2:¬9223372036854775807<T1.length+1+T2.length:=by omega
 have hc3:¬9223372036854775807<T1.length+1+T2.length+1:=by omega
 have hc4:¬9223372036854775807<T1.length+1+T2.length+1+T3.length:=by omega
 clear HA0 hno hnt hn ho1 ht1
 go_enter Tryz.func32,Tryz.ntmps32
 go_upto_if 26 with (first
  |(go_at_call 39;refine hLe.mono ?_;rintro e w1 ⟨rfl,hw1⟩;subst w1)
  |(go_at_call 21;refine hOp.mono ?_;rintro e w1 ⟨rfl,hw1⟩;subst w1)
  |(go_at_call 102;refine (hNo _ b1).mono ?_;rintro e w2 ⟨rfl,hw2⟩;subst w2)
  |(go_at_call 105;refine (hI1 _).mono ?_;rintro e w1 ⟨rfl,hw1⟩;subst w1)
  |(go_at_call 105;refine hI2.mono ?_;rintro e w1 ⟨rfl,b1⟩)
  |(go_at_call 105;refine (XZ _ b1).mono ?_;rintro e w3 ⟨rfl,b3⟩))
 clear hLe hOp hNo hI1 hI2 XZ hc1 hc2 hc3 hc4 l1 l2 l3
 have b13:=b1.trans (b3.mono b1.size)
 clear b1 b3
 go_cut [5] (fun s5 wc=>s5=tx (oh S no nt but)∧Below w.heap.size w wc)
 case first=>
  by_cases hb:0<but
  ·have e1:oh S no nt but=[]:=by rw [HH.out,if_pos hb]
   have hd:decide (0<but)=true:=decide_eq_true hb
   go_wp2_with fail
   go_meet
   case rel=>exact ⟨by first|(rw [e1];done) | (rw [e1];rfl),b13⟩
  ·have e1:oh S no nt but=TT:=by rw [HH.out,if_neg hb]
   go_wp2_with fail
   go_meet
   case rel=>exact ⟨by first|(rw [e1];done) | (rw [e1];rfl),b13⟩
 case rest=>
  obtain ⟨rfl,hw⟩:=hcut
  have h:=h.below hw
  have hp:=hp.below hw
  have Pm:=h.jg
  clear hst HH
  go_upto_region 5 with (go_at_call 34;refine Pm.mono ?_;rintro e w6 ⟨bp,cp,rfl,hcp,k6,b6⟩)
  have HM:Aside (∀j (hj:j<(ah S.P).length),(bp,j,Value.int .i64 (ah S.P)[j])∈lJ bp (ah S.P) ++ C):=fun j hj=>List.mem_append_left _ (qI hj)
  have HPd:Aside (∀j (hj:j<(ah S.P).length),1≤(ah S.P)[j]∧(ah S.P)[j]≤24∧(gJ S.P (ah S.P)[j]=1∨gJ S.P (ah S.P)[j]=2)):=fun j hj=>k6.GM (List.getElem_mem hj)
  have HNx:Aside (∀j (hj:j<(ah S.P).length),dJ S no nt but (j+1)=dJ S no nt but j ++ vQ S but (ah S.P)[j]):=fun j hj=>yl hj
  have HU8:Aside (∀o:Ow,aj (ax S o.j)≤8):=fun o=>h.SL o
  have ZY:Aside (dJ S no nt but (ah S.P).length=allT S no nt but):=rfl
  generalize TN:lJ bp (ah S.P) ++ C=C9 at *
  clear TN Pm h
  generalize ah S.P=L at *
  have hh:oh S no nt but=dJ S no nt but 0:=HZ.out.symm
  rw [hh]
  clear hh HZ
  go_wp2_with fail
  go_loopg [5,7,8,9,10,11] L.length (fun g s5 s7 _ _ _ _ wx=>∃j:Nat,Aside (j+g=L.length)∧s7=.int .i64 (j:Int)∧s5=tx (dJ S no nt but j)∧KC w0 wx m kb C9 S q∧Below wc.heap.size wc wx)
  case atStart=>exact ⟨0,(show 0+L.length=L.length by omega),rfl,rfl,k6,b6⟩
  case round=>
   clear k6 b6
   obtain ⟨j,HJ,rfl,rfl,k6,b6⟩:=hrel
   by_cases hjl:(j:Int)<(L.length:Int)
   ·have sG:j<L.length:=by omega
    have y0:=k6.at (HM.out j sG)
    have hmem:=HM.out j sG
    have hpd:=HPd.out j sG
    have hrow:=(HA.out.row L[j] (List.getElem_mem sG))
    have hln:=HA.out.len j (by omega)
    have Yb:Aside (dJ S no nt but (j+1)=dJ S no nt but j ++ vQ S but L[j]):=HNx.out j sG
    have hcj:(j:Int)<(cp:Int):=by omega
    generalize L[j]=p9 at *
    obtain ⟨pn,rfl⟩:∃pn:Nat,p9=(pn:Int):=⟨p9.toNat,by omega⟩
    by_cases hbt:(pn:Int)=but
    ·subst hbt
     have e1:dJ S no nt (pn:Int) (j+1)=dJ S no nt (pn:Int) j:=by
      rw [Yb.out];unfold vQ;rw [if_pos rfl,List.append_nil]
     generalize dJ S no nt (pn:Int) j=Z0 at *
     go_wp2_with fail
     go_roundg (gk-1)
     case measure=>have:=HJ.out;omega
     case rel=>exact ⟨j+1,(show j+1+(gk-1)=L.length by have:=HJ.out;omega),by go_num,by rw [e1],k6,b6⟩
    ·have hbb:((pn:Int) == but)=false:=by simpa using hbt
     have vL:Aside (dJ S no nt but (j+1)=dJ S no nt but j ++ Ai S (pn:Int) ++ hM S (pn:Int)):=by
      show dJ S no nt but (j+1)=_
      rw [Yb.out];unfold vQ;rw [if_neg hbt];unfold Ah;rw [List.append_assoc]
     have hwf:(Lit.int .i64 (pn:Int)).wf=true:=yz (by omega)
     obtain ⟨sn,hsn,hsl⟩:∃sn:Nat,gJ S.P (pn:Int)=(sn:Int)∧sn<100:=⟨(gJ S.P (pn:Int)).toNat,by omega,by omega⟩
     have hSt:=fun V (kV:KC w0 V m kb C9 S q)=>kV.state (pn:Int) hwf
     rw [hsn] at hSt
     have Qb:=fun W=>bX pn (by omega) W
     have Qa:=fun W=>bX sn hsl W
     have hTe:=fun c V hg=>mf c V hg
     have su:Ai S (pn:Int)=[124] ++ Lib.decDigits pn ++ [32] ++ Lib.decDigits sn ++ [32] ++ Lib.decDigits (hA S (pn:Int)) ++ [32] ++ Lib.decDigits (hB S (pn:Int)) ++ [32] ++ Lib.decDigits (hC S (pn:Int)) ++ [32] ++ Lib.decDigits (hE S (pn:Int)):=by
      unfold Ai;rw [hsn,Int.toNat_natCast,Int.toNat_natCast]
     have GR:=hrow.1
     have ow:=hrow.2
     unfold Ah at ow
     rw [List.length_append] at ow
     have hU8:=HU8.out
     have HHa:Aside (∀x:Nat,x<100→True):=fun _ _=>trivial
     cases ho:S.O (pn:Int) with
     |none=>
      have q1:hA S (pn:Int)=0:=by unfold hA;rw [ho]
      have q2:hB S (pn:Int)=0:=by unfold hB;rw [ho]
      have q3:hC S (pn:Int)=0:=by unfold hC;rw [ho]
      have q4:hE S (pn:Int)=7:=by unfold hE;rw [ho];rfl
      have q5:hM S (pn:Int)=[]:=by unfold hM;rw [ho]
      have q1:hA S (pn:Int)=0:=by unfold hA;rw [ho]
      have q2:hB S (pn:Int)=0:=by unfold hB;rw [ho]
      have q3:hC S (pn:Int)=0:=by unfold hC;rw [ho]
      have q4:hE S (pn:Int)=7:=by unfold hE;rw [ho];rfl
      have q5:hM S (pn:Int)=[]:=by unfold hM;rw [ho]
      have hH:=k6.Ff ho hwf
      rw [q1,q2,q3,q4] at su
      rw [q5] at ow vL
      clear q1 q2 q3 q4 q5 hU8 Yb hrow ho
      have Qb:∀W:World,Calls Tryz.prog 105 #[.int .i64 (pn:Int)] W fun e w'=>e=.returned (.string ⟨(Lib.decDigits pn).toArray⟩)∧w'=W:=fun W=>bX pn (by omega) W
      have lP1:=dD (i:=pn) (by omega)
      have Qa:∀W:World,Calls Tryz.prog 105 #[.int .i64 (sn:Int)] W fun e w'=>e=.returned (.string ⟨(Lib.decDigits sn).toArray⟩)∧w'=W:=fun W=>bX sn (by omega) W
      have lS1:=dD (i:=sn) (by omega)
      have Ug:∀W:World,Calls Tryz.prog 105 #[.int .i64 (0:Int)] W fun e w'=>e=.returned (.string ⟨(Lib.decDigits 0).toArray⟩)∧w'=W:=fun W=>bX 0 (by omega) W
      have lA1:=dD (i:=0) (by omega)
      have Uf:∀W:World,Calls Tryz.prog 105 #[.int .i64 (7:Int)] W fun e w'=>e=.returned (.string ⟨(Lib.decDigits 7).toArray⟩)∧w'=W:=fun W=>bX 7 (by omega) W
      have lE1:=dD (i:=7) (by omega)
      have YH:∀V:World,V.cell? ⟨0,0,none⟩=some fC→Calls Tryz.prog 17 #[eZ 7] V fun e w'=>e=.returned (.int .i64 7)∧Below V.heap.size V w':=fun V hg=>mf 7 V hg
      generalize Lib.decDigits pn=P1 at *
      generalize Lib.decDigits sn=S1 at *
      generalize Lib.decDigits 0=A1 at *
      generalize Lib.decDigits 7=E1 at *
      obtain ⟨U1,PO⟩:∃U:List UInt8,[124] ++ P1=U:=⟨_,rfl⟩
      have f1:=TB P1
      rw [PO] at f1
      rw [PO] at su
      have g1:U1.length=1+P1.length:=by rw [←PO,List.length_append];rfl
      have z1:¬9223372036854775807<1+P1.length:=by omega
      obtain ⟨U2,Cn⟩:∃U:List UInt8,U1 ++ [32]=U:=⟨_,rfl⟩
      have f2:=qa U1
      rw [Cn] at f2
      rw [Cn] at su
      have g2:U2.length=U1.length+1:=by rw [←Cn,List.length_append];rfl
      have z2:¬9223372036854775807<U1.length+1:=by omega
      obtain ⟨U3,PN⟩:∃U:List UInt8,U2 ++ S1=U:=⟨_,rfl⟩
      have f3:=lX U2 S1
      rw [PN] at f3
      rw [PN] at su
      have g3:U3.length=U2.length+S1.length:=by rw [←PN,List.length_append]
      have z3:¬9223372036854775807<U2.length+S1.length:=by omega
      obtain ⟨U4,PL⟩:∃U:List UInt8,U3 ++ [32]=U:=⟨_,rfl⟩
      have f4:=qa U3
      rw [PL] at f4
      rw [PL] at su
      have g4:U4.length=U3.length+1:=by rw [←PL,List.length_append];rfl
      have z4:¬9223372036854775807<U3.length+1:=by omega
      obtain ⟨U5,PK⟩:∃U:List UInt8,U4 ++ A1=U:=⟨_,rfl⟩
      have f5:=lX U4 A1
      rw [PK] at f5
      rw [PK] at su
      have g5:U5.length=U4.length+A1.length:=by rw [←PK,List.length_append]
      have z5:¬9223372036854775807<U4.length+A1.length:=by omega
      obtain ⟨U6,PI⟩:∃U:List UInt8,U5 ++ [32]=U:=⟨_,rfl⟩
      have f6:=qa U5
      rw [PI] at f6
      rw [PI] at su
      have g6:U6.length=U5.length+1:=by rw [←PI,List.length_append];rfl
      have z6:¬9223372036854775807<U5.length+1:=by omega
      obtain ⟨U7,PH⟩:∃U:List UInt8,U6 ++ A1=U:=⟨_,rfl⟩
      have f7:=lX U6 A1
      rw [PH] at f7
      rw [PH] at su
      have g7:U7.length=U6.length+A1.length:=by rw [←PH,List.length_append]
      have z7:¬9223372036854775807<U6.length+A1.length:=by omega
      obtain ⟨U8,hU8⟩:∃U:List UInt8,U7 ++ [32]=U:=⟨_,rfl⟩
      have f8:=qa U7
      rw [hU8] at f8
      rw [hU8] at su
      have g8:U8.length=U7.length+1:=by rw [←hU8,List.length_append];rfl
      have z8:¬9223372036854775807<U7.length+1:=by omega
      obtain ⟨U9,Pk⟩:∃U:List UInt8,U8 ++ A1=U:=⟨_,rfl⟩
      have f9:=lX U8 A1
      rw [Pk] at f9
      rw [Pk] at su
      have g9:U9.length=U8.length+A1.length:=by rw [←Pk,List.length_append]
      have z9:¬9223372036854775807<U8.length+A1.length:=by omega
      obtain ⟨L8,Ar⟩:∃U:List UInt8,U9 ++ [32]=U:=⟨_,rfl⟩
      have f10:=qa U9
      rw [Ar] at f10
      rw [Ar] at su
      have g10:L8.length=U9.length+1:=by rw [←Ar,List.length_append];rfl
      have z10:¬9223372036854775807<U9.length+1:=by omega
      obtain ⟨L6,Aq⟩:∃U:List UInt8,L8 ++ E1=U:=⟨_,rfl⟩
      have f11:=lX L8 E1
      rw [Aq] at f11
      rw [Aq] at su
      have g11:L6.length=L8.length+E1.length:=by rw [←Aq,List.length_append]
      have z11:¬9223372036854775807<L8.length+E1.length:=by omega
      rw [su] at GR ow vL
      clear su
      generalize YF:dJ S no nt but j=Z0 at *
      obtain ⟨Z1,hZ1⟩:∃Z:List UInt8,Z0 ++ L6=Z:=⟨_,rfl⟩
      have fz:=lX Z0 L6
      rw [hZ1] at fz
      have gz:Z1.length=Z0.length+L6.length:=by rw [←hZ1,List.length_append]
      have zz:¬9223372036854775807<Z0.length+L6.length:=by omega
      have YY:Aside (dJ S no nt but (j+1)=Z1 ++ []):=by
       show dJ S no nt but (j+1)=_
       rw [vL.out,←hZ1]
      have hgm:Z1.length+2300≤1000000:=by omega
      clear vL YF
      clear PO g1
      clear Cn g2
      clear PN g3
      clear PL g4
      clear PK g5
      clear PI g6
      clear PH g7
      clear hU8 g8
      clear Pk g9
      clear Ar g10
      clear Aq g11
      clear gz hZ1 GR ow
      go_upto_region 10 with (go_at_call 38;refine hH.mono ?_;rintro e w7 ⟨rfl,k7,b7⟩)
      have y7:=k7.at hmem
      have B7:=b6.trans (b7.mono b6.size)
      clear y0 hH
      go_region_held3 (fun w'=>w'.cell? ⟨bp,j,none⟩=some (.int .i64 (pn:Int))) (first|exact y8|exact y7) (first
       |(go_at_call 105;refine (Qb _).mono ?_;rintro e wi ⟨rfl,GG⟩;subst wi)
       |(go_at_call 105;refine (Qa _).mono ?_;rintro e wi ⟨rfl,GG⟩;subst wi)
       |(go_at_call 105;refine (Ug _).mono ?_;rintro e wi ⟨rfl,GG⟩;subst wi)
       |(go_at_call 105;refine (Uf _).mono ?_;rintro e wi ⟨rfl,GG⟩;subst wi)
       |(go_at_call 35;refine (hSt _ (by first|exact k7|exact k7.below ⟨rfl,rfl,rfl,Nat.le_refl _,fun _ _=>rfl⟩)).mono ?_;rintro e w8 ⟨rfl,k8,b8⟩;have y8:=k8.at hmem;have B8:=Below.next (w:=w7) b8 B7 rfl rfl rfl rfl)
       |(go_at_call 17;refine (YH _ k8.er).mono ?_;rintro e w9 ⟨rfl,b9⟩;have k9:=k8.below (w':=w9) (Below.next (w:=w8) b9 (Below.refl _ w8) rfl rfl rfl rfl);have y8:=k9.at hmem;have B9:=Below.next (w:=w8) b9 B8 rfl rfl rfl rfl))
      all_goals
       go_wp2_with fail
       go_roundg (gk-1)
       case measure=>have:=HJ.out;omega
       case rel=>exact ⟨j+1,(show j+1+(gk-1)=L.length by have:=HJ.out;omega),by go_num,by rw [YY.out,List.append_nil],k9,B9⟩
     |some o=>
      have q1:hA S (pn:Int)=bI (aK S o.j):=by unfold hA;rw [ho]
      have q2:hB S (pn:Int)=gT (aK S o.j):=by unfold hB;rw [ho]
      have q3:hC S (pn:Int)=aj (ax S o.j):=by unfold hC;rw [ho]
      have q4:hE S (pn:Int)=0:=by unfold hE;rw [ho];rfl
      have q5:hM S (pn:Int)=memT S o:=by unfold hM;rw [ho];rfl
      have hH:=k6.je ho
      have hMm:=fun V (kV:KC w0 V m kb C9 S q) (pV:Pow V)=>kV.memory ho hD pV
      have x1:=ni (aK S o.j)
      have x2:=H6 (aK S o.j)
      have x3:=hU8 o
      rw [q1,q2,q3,q4] at su
      rw [q5] at ow vL
      clear q1 q2 q3 q4 q5 hU8 Yb hrow ho
      generalize memT S o=MM at *
      generalize bI (aK S o.j)=na at *
      generalize gT (aK S o.j)=nb at *
      generalize aj (ax S o.j)=nc at *
      have Qb:∀W:World,Calls Tryz.prog 105 #[.int .i64 (pn:Int)] W fun e w'=>e=.returned (.string ⟨(Lib.decDigits pn).toArray⟩)∧w'=W:=fun W=>bX pn (by omega) W
      have lP1:=dD (i:=pn) (by omega)
      have Qa:∀W:World,Calls Tryz.prog 105 #[.int .i64 (sn:Int)] W fun e w'=>e=.returned (.string ⟨(Lib.decDigits sn).toArray⟩)∧w'=W:=fun W=>bX sn (by omega) W
      have lS1:=dD (i:=sn) (by omega)
      have Ug:∀W:World,Calls Tryz.prog 105 #[.int .i64 (na:Int)] W fun e w'=>e=.returned (.string ⟨(Lib.decDigits na).toArray⟩)∧w'=W:=fun W=>bX na (by omega) W
      have lA1:=dD (i:=na) (by omega)
      have ZJ:∀W:World,Calls Tryz.prog 105 #[.int .i64 (nb:Int)] W fun e w'=>e=.returned (.string ⟨(Lib.decDigits nb).toArray⟩)∧w'=W:=fun W=>bX nb (by omega) W
      have lB1:=dD (i:=nb) (by omega)
      have ZI:∀W:World,Calls Tryz.prog 105 #[.int .i64 (nc:Int)] W fun e w'=>e=.returned (.string ⟨(Lib.decDigits nc).toArray⟩)∧w'=W:=fun W=>bX nc (by omega) W
      have lC1:=dD (i:=nc) (by omega)
      have Uf:∀W:World,Calls Tryz.prog 105 #[.int .i64 (0:Int)] W fun e w'=>e=.returned (.string ⟨(Lib.decDigits 0).toArray⟩)∧w'=W:=fun W=>bX 0 (by omega) W
      have lE1:=dD (i:=0) (by omega)
      have YH:∀V:World,V.cell? ⟨0,0,none⟩=some fC→Calls Tryz.prog 17 #[Value.nilIface] V fun e w'=>e=.returned (.int .i64 0)∧Below V.heap.size V w':=fun V hg=>mf 0 V hg
      generalize Lib.decDigits pn=P1 at *
      generalize Lib.decDigits sn=S1 at *
      generalize Lib.decDigits na=A1 at *
      generalize Lib.decDigits nb=B1 at *
      generalize Lib.decDigits nc=C1 at *
      generalize Lib.decDigits 0=E1 at *
      obtain ⟨U1,PO⟩:∃U:List UInt8,[124] ++ P1=U:=⟨_,rfl⟩
      have f1:=TB P1
      rw [PO] at f1
      rw [PO] at su
      have g1:U1.length=1+P1.length:=by rw [←PO,List.length_append];rfl
      have z1:¬9223372036854775807<1+P1.length:=by omega
      obtain ⟨U2,Cn⟩:∃U:List UInt8,U1 ++ [32]=U:=⟨_,rfl⟩
      have f2:=qa U1
      rw [Cn] at f2
      rw [Cn] at su
      have g2:U2.length=U1.length+1:=by rw [←Cn,List.length_append];rfl
      have z2:¬9223372036854775807<U1.length+1:=by omega
      obtain ⟨U3,PN⟩:∃U:List UInt8,U2 ++ S1=U:=⟨_,rfl⟩
      have f3:=lX U2 S1
      rw [PN] at f3
      rw [PN] at su
      have g3:U3.length=U2.length+S1.length:=by rw [←PN,List.length_append]
      have z3:¬9223372036854775807<U2.length+S1.length:=by omega
      obtain ⟨U4,PL⟩:∃U:List UInt8,U3 ++ [32]=U:=⟨_,rfl⟩
      have f4:=qa U3
      rw [PL] at f4
      rw [PL] at su
      have g4:U4.length=U3.length+1:=by rw [←PL,List.length_append];rfl
      have z4:¬9223372036854775807<U3.length+1:=by omega
      obtain ⟨U5,PK⟩:∃U:List UInt8,U4 ++ A1=U:=⟨_,rfl⟩
      have f5:=lX U4 A1
      rw [PK] at f5
      rw [PK] at su
      have g5:U5.length=U4.length+A1.length:=by rw [←PK,List.length_append]
      have z5:¬9223372036854775807<U4.length+A1.length:=by omega
      obtain ⟨U6,PI⟩:∃U:List UInt8,U5 ++ [32]=U:=⟨_,rfl⟩
      have f6:=qa U5
      rw [PI] at f6
      rw [PI] at su
      have g6:U6.length=U5.length+1:=by rw [←PI,List.length_append];rfl
      have z6:¬9223372036854775807<U5.length+1:=by omega
      obtain ⟨U7,PH⟩:∃U:List UInt8,U6 ++ B1=U:=⟨_,rfl⟩
      have f7:=lX U6 B1
      rw [PH] at f7
      rw [PH] at su
      have g7:U7.length=U6.length+B1.length:=by rw [←PH,List.length_append]
      have z7:¬9223372036854775807<U6.length+B1.length:=by omega
      obtain ⟨U8,hU8⟩:∃U:List UInt8,U7 ++ [32]=U:=⟨_,rfl⟩
      have f8:=qa U7
      rw [hU8] at f8
      rw [hU8] at su
      have g8:U8.length=U7.length+1:=by rw [←hU8,List.length_append];rfl
      have z8:¬9223372036854775807<U7.length+1:=by omega
      obtain ⟨U9,Pk⟩:∃U:List UInt8,U8 ++ C1=U:=⟨_,rfl⟩
      have f9:=lX U8 C1
      rw [Pk] at f9
      rw [Pk] at su
      have g9:U9.length=U8.length+C1.length:=by rw [←Pk,List.length_append]
      have z9:¬9223372036854775807<U8.length+C1.length:=by omega
      obtain ⟨L8,Ar⟩:∃U:List UInt8,U9 ++ [32]=U:=⟨_,rfl⟩
      have f10:=qa U9
      rw [Ar] at f10
      rw [Ar] at su
      have g10:L8.length=U9.length+1:=by rw [←Ar,List.length_append];rfl
      have z10:¬9223372036854775807<U9.length+1:=by omega
      obtain ⟨L6,Aq⟩:∃U:List UInt8,L8 ++ E1=U:=⟨_,rfl⟩
      have f11:=lX L8 E1
      rw [Aq] at f11
      rw [Aq] at su
      have g11:L6.length=L8.length+E1.length:=by rw [←Aq,List.length_append]
      have z11:¬9223372036854775807<L8.length+E1.length:=by omega
      rw [su] at GR ow vL
      clear su
      generalize YF:dJ S no nt but j=Z0 at *
      obtain ⟨Z1,hZ1⟩:∃Z:List UInt8,Z0 ++ L6=Z:=⟨_,rfl⟩
      have fz:=lX Z0 L6
      rw [hZ1] at fz
      have gz:Z1.length=Z0.length+L6.length:=by rw [←hZ1,List.length_append]
      have zz:¬9223372036854775807<Z0.length+L6.length:=by omega
      have YY:Aside (dJ S no nt but (j+1)=Z1 ++ MM):=by
       show dJ S no nt but (j+1)=_
       rw [vL.out,←hZ1]
      have hgm:Z1.length+2300≤1000000:=by omega
      clear vL YF
      clear PO g1
      clear Cn g2
      clear PN g3
      clear PL g4
      clear PK g5
      clear PI g6
      clear PH g7
      clear hU8 g8
      clear Pk g9
      clear Ar g10
      clear Aq g11
      clear gz hZ1 GR
      go_upto_region 10 with (go_at_call 38;refine hH.mono ?_;rintro e w7 ⟨rfl,k7,b7⟩)
      have y7:=k7.at hmem
      have B7:=b6.trans (b7.mono b6.size)
      clear y0 hH
      go_region_held3 (fun w'=>w'.cell? ⟨bp,j,none⟩=some (.int .i64 (pn:Int))) (first|exact y8|exact y7) (first
       |(go_at_call 105;refine (Qb _).mono ?_;rintro e wi ⟨rfl,GG⟩;subst wi)
       |(go_at_call 105;refine (Qa _).mono ?_;rintro e wi ⟨rfl,GG⟩;subst wi)
       |(go_at_call 105;refine (Ug _).mono ?_;rintro e wi ⟨rfl,GG⟩;subst wi)
       |(go_at_call 105;refine (ZJ _).mono ?_;rintro e wi ⟨rfl,GG⟩;subst wi)
       |(go_at_call 105;refine (ZI _).mono ?_;rintro e wi ⟨rfl,GG⟩;subst wi)
       |(go_at_call 105;refine (Uf _).mono ?_;rintro e wi ⟨rfl,GG⟩;subst wi)
       |(go_at_call 35;refine (hSt _ (by first|exact k7|exact k7.below ⟨rfl,rfl,rfl,Nat.le_refl _,fun _ _=>rfl⟩)).mono ?_;rintro e w8 ⟨rfl,k8,b8⟩;have y8:=k8.at hmem;have B8:=Below.next (w:=w7) b8 B7 rfl rfl rfl rfl)
       |(go_at_call 17;refine (YH _ k8.er).mono ?_;rintro e w9 ⟨rfl,b9⟩;have k9:=k8.below (w':=w9) (Below.next (w:=w8) b9 (Below.refl _ w8) rfl rfl rfl rfl);have y8:=k9.at hmem;have B9:=Below.next (w:=w8) b9 B8 rfl rfl rfl rfl))
      all_goals
       have hM9:=hMm _ k9 (hp.below B9)
       have fm:=lX Z1 MM
       have zm:¬9223372036854775807<Z1.length+MM.length:=by omega
       clear hMm ow hgm
       go_wp2_with (go_at_call 106;refine hM9.mono ?_;rintro e wm ⟨rfl,bm⟩)
       go_roundg (gk-1)
       case measure=>have:=HJ.out;omega
       case rel=>exact ⟨j+1,(show j+1+(gk-1)=L.length by have:=HJ.out;omega),by go_num,by rw [YY.out],k9.below bm,Below.next (w:=w9) bm B9 rfl rfl rfl rfl⟩
   ·have hjE:j=L.length:=by have:=HJ.out;omega
    subst hjE
    rw [ZY.out]
    go_wp2_with fail
    go_ret
    exact ⟨rfl,hw.trans (b6.mono hw.size)⟩
end
end Go.Proofs.YtcfhanoekniaaaaGreatDoor

/- A process's first pages, and all of a kernel, as texts: plainly. -/
import Derived.Test.YtcfhanoekniaaaaGreatDoorZBuilder
import Derived.Test.YtcfhanoekniaaaaGreatDoorZRuns
import Derived.Lib.ItoaLen
import Derived.Deep.LoopGhost
import Derived.Test.YtcfhanoekniaaaaGreatDoorShelfN
import Derived.Deep.DeepCutAuto
import Derived.Deep.CutBlock
import Derived.Deep.RegionHeld3
import Derived.Test.YtcfhanoekniaaaaGreatDoorZTalks
set_option maxHeartbeats 16000000
set_option maxRecDepth 100000
namespace Go.Proofs.YtcfhanoekniaaaaGreatDoor
open Go.RowKit Go.Maps
def eF (P:PM) (D:Nat→Nat→Int) (i:Nat):List UInt8:=Lib.itoa (fV P D ((i / 8:Nat):Int) ((i % 8:Nat):Int)) ++ [44] ++ Lib.decDigits (eP P ((i / 8:Nat):Int) ((i % 8:Nat):Int) 1).toNat ++ [59]
def Fe (P:PM) (D:Nat→Nat→Int) (n:Nat):List UInt8:=(List.range n).flatMap (eF P D)
theorem xx (P:PM) (D:Nat→Nat→Int) (n:Nat):Fe P D (n+1)=Fe P D n ++ eF P D n:=by unfold Fe;rw [List.range_succ,List.flatMap_append];simp
def jF (D:Nat→Nat→Int):Prop:=∀f k,-9223372036854775808≤D f k∧D f k≤9223372036854775807
theorem jF.load {D:Nat→Nat→Int}(h:jF D) (P:PM) (a k:Int):-9223372036854775808≤fV P D a k∧fV P D a k≤9223372036854775807:=by
 unfold fV wd;split
 ·split
  ·omega
  ·exact h _ _
 ·omega
theorem xC (P:PM) (a k u:Int):0≤eP P a k u∧eP P a k u<100:=by
 unfold eP;split
 ·omega
 ·split
  ·split<;>omega
  ·omega
theorem dH {i:Nat}(hi:i<100):(Lib.decDigits i).length≤21:=by
 have:=Lib.itoa_length_le (i:Int) (by omega) (by omega)
 have e:Lib.itoa (i:Int)=Lib.decDigits i:=by unfold Lib.itoa;rw [if_neg (by omega)];rfl
 rw [e] at this;exact this
theorem I6 {D:Nat→Nat→Int}(h:jF D) (P:PM) (i:Nat):(eF P D i).length≤44:=by
 have h1:=h.load P ((i / 8:Nat):Int) ((i % 8:Nat):Int)
 have h2:=Lib.itoa_length_le _ h1.1 h1.2
 have h3:=xC P ((i / 8:Nat):Int) ((i % 8:Nat):Int) 1
 have h4:=dH (i:=(eP P ((i / 8:Nat):Int) ((i % 8:Nat):Int) 1).toNat) (by omega)
 unfold eF;simp only [List.length_append,List.length_cons,List.length_nil];omega
theorem Ca {D:Nat→Nat→Int}(h:jF D) (P:PM):∀n,(Fe P D n).length≤44*n
 |0=>by simp [Fe]
 |n+1=>by rw [xx,List.length_append];have:=Ca h P n;have:=I6 h P n;omega
def hA (S:KS) (p:Int):Nat:=match S.O p with|some o=>bN (aK S o.j) | none=>0
def hB (S:KS) (p:Int):Nat:=match S.O p with|some o=>iq (aK S o.j) | none=>0
def hC (S:KS) (p:Int):Nat:=match S.O p with|some o=>aj (ax S o.j) | none=>0
def hE (S:KS) (p:Int):Nat:=if (S.O p).isSome then 0 else 7
def hM (S:KS) (p:Int):List UInt8:=match S.O p with|some o=>Fe (aK S o.j) S.W 48|none=>[]
def AB (S:KS) (p:Int):List UInt8:=[124] ++ Lib.decDigits p.toNat ++ [32] ++ Lib.decDigits (gJ S.P p).toNat ++ [32] ++ Lib.decDigits (hA S p) ++ [32] ++ Lib.decDigits (hB S p) ++ [32] ++ Lib.decDigits (hC S p) ++ [32] ++ Lib.decDigits (hE S p)
def AA (S:KS) (p:Int):List UInt8:=AB S p ++ hM S p
def wo (S:KS) (but p:Int):List UInt8:=if p=but then [] else AA S p
def oD (S:KS) (no nt:Nat) (but:Int):List UInt8:=if 0<but then [] else Lib.decDigits (S.n-used (jq S.Ms) S.n) ++ [32] ++ Lib.decDigits no ++ [32] ++ Lib.decDigits nt
def dP (S:KS) (no nt:Nat) (but:Int) (j:Nat):List UInt8:=oD S no nt but ++ ((af S.P).take j).flatMap (wo S but)
def allT (S:KS) (no nt:Nat) (but:Int):List UInt8:=dP S no nt but (af S.P).length
theorem yA {S:KS}{no nt:Nat}{but:Int}{j:Nat}(h:j<(af S.P).length):dP S no nt but (j+1)=dP S no nt but j ++ wo S but (af S.P)[j]:=by
 unfold dP
 rw [List.take_succ_eq_append_getElem h,List.flatMap_append,List.append_assoc]
 simp
theorem Oa {S:KS}(hD:jF S.W) {p:Int}(hp:p.toNat<100) (hs:(gJ S.P p).toNat<100) (ht:∀o,S.O p=some o→aj (ax S o.j)≤8):(AB S p).length≤132∧(AA S p).length≤2300:=by
 have h1:=dH (i:=p.toNat) hp
 have h2:=dH (i:=(gJ S.P p).toNat) hs
 have hA':hA S p<100:=by
  unfold hA;split
  ·rename_i o _;have:=nG (aK S o.j);omega
  ·omega
 have hB':hB S p<100:=by
  unfold hB;split
  ·rename_i o _;have:=Iw (aK S o.j);omega
  ·omega
 have hC':hC S p<100:=by
  unfold hC;split
  ·have:=ht _ (by assumption);omega
  ·omega
 have hE':hE S p<100:=by unfold hE;split<;>omega
 have h3:=dH hA'
 have h4:=dH hB'
 have h5:=dH hC'
 have h6:=dH hE'
 have h7:(hM S p).length≤44*48:=by
  unfold hM;split
  ·exact Ca hD _ 48
  ·simp
 have h8:(AB S p).length≤132:=by
  unfold AB;simp only [List.length_append,List.length_cons,List.length_nil];omega
 exact ⟨h8,by unfold AA;rw [List.length_append];omega⟩
end Go.Proofs.YtcfhanoekniaaaaGreatDoor
namespace Go.Proofs.YtcfhanoekniaaaaGreatDoor
structure Vw (S S':KS):Prop where
 n:S'.n=S.n
 ms:jq S'.Ms=jq S.Ms
 e:∀x,(S'.D.E x).isSome=(S.D.E x).isSome
 t:∀x,(S'.D.T x).isSome=(S.D.T x).isSome
 jr:af S'.P=af S.P
 st:∀x,gJ S'.P x=gJ S.P x
 o:∀x,(S.O x=none∧S'.O x=none)∨∃o o',S.O x=some o∧S'.O x=some o'∧aK S' o'.j=aK S o.j∧aj (ax S' o'.j)=aj (ax S o.j)
 w:S'.W=S.W
section
variable {S S':KS}{p a b c k v:Int}{s t:List UInt8}{o:Ow}{no nt:Nat}
theorem Vw.refl (S:KS):Vw S S:=⟨rfl,rfl,fun _=>rfl,fun _=>rfl,rfl,fun _=>rfl,fun x=>by
 cases h:S.O x with
 |none=>exact .inl ⟨rfl,rfl⟩
 |some o=>exact .inr ⟨o,o,rfl,rfl,rfl,rfl⟩,rfl⟩
theorem Vw.procs {P':Ps}(hp:af P'=af S.P) (hs:∀x,gJ P' x=gJ S.P x):Vw S (S.procs P'):=
 ⟨rfl,rfl,fun _=>rfl,fun _=>rfl,hp,hs,fun x=>by
  cases h:S.O x with
  |none=>exact .inl ⟨rfl,h⟩
  |some o1=>exact .inr ⟨o1,o1,rfl,h,rfl,rfl⟩,rfl⟩
theorem XO {P:Ps}{n:Int}{f:Pr→Pr}(hf:∀q,(f q).state=q.state) (x:Int):gJ (q8 P n f) x=gJ P x:=by
 unfold gJ q8
 by_cases e:x=n
 ·subst e
  cases h:P x with
  |none=>simp
  |some q=>simp [hf]
 ·simp [e]
theorem R4 (S:KS) (n sig:Int):Vw S (S.procs (if fP S.P n sig=0 then ku S.P n sig else S.P)):=by
 split
 ·refine Vw.procs ?_ (fun x=>?_)
  ·unfold ku;exact Rz _ _ _
  ·unfold ku;exact XO (fun q=>by split<;>rfl) x
 ·exact .refl S
theorem JI {P:Ps}{n:Int}(h:(aI P n).2.2.1≠0):(aI P n).2.2.2=P:=by
 unfold aI at h ⊢
 split
 ·rfl
 ·rename_i h1
  rw [if_neg h1] at h
  split
  ·rename_i x hx
   rw [hx] at h
   exact absurd rfl h
  ·rfl
end
section
variable {w:World}{m:Int}{H:KH}{S S':KS}{q:Nat}{A:Nat→Prop}{p a b c:Int}{s t:List UInt8}{o:Ow}
theorem yF.Jq {n:Nat}{P P':PM}{f:Int→Nat}{D D':Nat→Nat→Int}{a k v er:Int}(h:yF n P f D a k v er P' D') (hD:jF D) (hv:-9223372036854775808≤v∧v≤9223372036854775807):jF D':=by
 have hu:∀D0:Nat→Nat→Int,jF D0→∀i j,jF (upd D0 i j v):=fun D0 h0 i j x y=>by
  unfold upd
  split
  ·exact hv
  ·exact h0 x y
 rcases h with ⟨_,_,_,rfl⟩|⟨_,_,_,_,_,rfl⟩|⟨_,_,_,_,_,rfl⟩|⟨_,_,x,_,_,_,_,rfl⟩
 ·exact hD
 ·exact hu _ hD _ _
 ·exact hD
 ·refine hu _ (fun i j=>?_) _ _
  unfold row fZ
  split
  ·split
   ·omega
   ·exact hD _ _
  ·exact hD _ _
theorem fM.Jq {S S':KS}{p a:Int}{went:List Int}{er k v:Int}(r:fM p a k v S went er S') (hD:jF S.W) (hv:-9223372036854775808≤v∧v≤9223372036854775807):jF S'.W:=by
 induction r with
 |done ho h h12=>exact h.Jq hD hv
 |nobody ho h hv=>exact hD
 |self ho h hv he=>exact hD
 |goes ho h hv he hx h1 hne r ih=>exact ih hD
theorem aX.Jq {S S':KS}{p a b c:Int}{s t:List UInt8}{W e:Int}(r:aX S p a b c s t W e S') (hD:jF S.W) (hv:-9223372036854775808≤c∧c≤9223372036854775807):jF S'.W:=by
 cases r with
 |nobody ho hW=>exact hD
 |other hW=>exact hD
 |full hW ho hc=>exact hD
 |fork hW ho hc=>exact hD
 |exit ho=>unfold nC;split<;>exact hD
 |exec ho=>exact hD
 |wait ho=>exact hD
 |map hW ho=>unfold jy;split<;>exact hD
 |uI ho=>exact hD
 |store hW ho r=>exact r.Jq hD hv
 |file hW ho hn hk r=>
  rcases r with ⟨_,_,_,rfl⟩|⟨_,_,_,_,rfl⟩<;>exact hD
 |pipe ho hn r=>
  rcases r with ⟨_,_,_,_,rfl⟩|⟨_,_,_,_,rfl⟩<;>exact hD
 |dup ho=>unfold qi;split<;>exact hD
 |dup2 ho=>unfold iB;split<;>exact hD
 |close ho=>exact hD
 |write ho=>unfold jh;split<;>exact hD
 |read ho=>exact hD
 |limit ho=>exact hD
 |kill ho=>exact hD
 |signal ho h1 hs=>exact hD
 |quiet ho hs=>exact hD
 |first ho h1=>exact hD
 |CX ho hk r=>exact hD
 |unlink ho=>exact hD
 |rename ho=>exact hD
 |nE ho=>exact hD
 |mark yes ho=>exact hD
 |wK ho=>unfold uM;split<;>exact hD
end
structure Vp (S S':KS) (p:Int):Prop where
 jr:af S'.P=af S.P
 st:∀x,gJ S'.P x=gJ S.P x
 o:∀x,x≠p→(S.O x=none∧S'.O x=none)∨∃o o',S.O x=some o∧S'.O x=some o'∧aK S' o'.j=aK S o.j∧aj (ax S' o'.j)=aj (ax S o.j)∧∀a k,fV (aK S o.j) S'.W a k=fV (aK S o.j) S.W a k
section
variable {S S':KS}{p a b c k v:Int}{s t:List UInt8}{o:Ow}{no nt:Nat}
theorem Vp.refl (S:KS) (p:Int):Vp S S p:=⟨rfl,fun _=>rfl,fun x _=>by
 cases h:S.O x with
 |none=>exact .inl ⟨rfl,rfl⟩
 |some o=>exact .inr ⟨o,o,rfl,rfl,rfl,rfl,fun _ _=>rfl⟩⟩
theorem Vw.vp (h:Vw S S') (p:Int):Vp S S' p:=⟨h.jr,h.st,fun x _=>by
 rcases h.o x with h1|⟨o,o',h1,h2,h3,h4⟩
 ·exact .inl h1
 ·exact .inr ⟨o,o',h1,h2,h3,h4,fun _ _=>by rw [h.w]⟩⟩
theorem Vp.row (h:Vp S S' p) {x:Int}(hx:x≠p):AA S' x=AA S x:=by
 unfold AA AB hA hB hC hE hM
 rw [h.st x]
 rcases h.o x hx with ⟨h1,h2⟩|⟨o,o',h1,h2,h3,h4,h5⟩
 ·rw [h1,h2]
 ·rw [h1,h2]
  have he:eF (aK S o.j) S'.W=eF (aK S o.j) S.W:=by funext i;unfold eF;rw [h5]
  have hb:Fe (aK S o.j) S'.W 48=Fe (aK S o.j) S.W 48:=by unfold Fe;rw [he]
  simp only [h3,h4,hb,Option.isSome_some]
theorem Vp.files (l:Qq S) (ho:S.O p=some o) (D':DS) (N':Ns):Vp S (S.files D' o.j N') p:=
 ⟨rfl,fun _=>rfl,fun x hx=>by
  cases h:S.O x with
  |none=>exact .inl ⟨rfl,h⟩
  |some o1=>exact .inr ⟨o1,o1,rfl,h,rfl,by
   rw [fD (l.lt _ _ ho),if_neg (fun e=>hx (l.inj _ _ _ _ h ho e))],fun _ _=>rfl⟩⟩
theorem Vp.space (l:Qq S) (ho:S.O p=some o) (P':PM):Vp S (S.space o.j P' S.W) p:=
 ⟨rfl,fun _=>rfl,fun x hx=>by
  cases h:S.O x with
  |none=>exact .inl ⟨rfl,h⟩
  |some o1=>exact .inr ⟨o1,o1,rfl,h,by
   rw [dS (by rw [l.len];exact l.lt _ _ ho),if_neg (fun e=>hx (l.inj _ _ _ _ h ho e))],rfl,fun _ _=>rfl⟩⟩
theorem Vp.own (o':Ow):Vp S (S.own p o') p:=
 ⟨rfl,fun _=>rfl,fun x hx=>by
  cases h:S.O x with
  |none=>exact .inl ⟨rfl,by show iX S.O p o' x=none;rw [dQ hx];exact h⟩
  |some o1=>exact .inr ⟨o1,o1,rfl,by show iX S.O p o' x=some o1;rw [dQ hx];exact h,rfl,rfl,fun _ _=>rfl⟩⟩
theorem Vp.tree (T':Wd):Vp S (S.tree T') p:=
 ⟨rfl,fun _=>rfl,fun x _=>by
  cases h:S.O x with
  |none=>exact .inl ⟨rfl,h⟩
  |some o1=>exact .inr ⟨o1,o1,rfl,h,rfl,rfl,fun _ _=>rfl⟩⟩
theorem Vp.trans {S2:KS}(h:Vp S S' p) (h2:Vp S' S2 p):Vp S S2 p:=
 ⟨h2.jr.trans h.jr,fun x=>(h2.st x).trans (h.st x),fun x hx=>by
  rcases h.o x hx with ⟨h3,h4⟩|⟨o,o1,h3,h4,h5,h6,h7⟩
  ·rcases h2.o x hx with ⟨h8,h9⟩|⟨o2,o3,h8,_⟩
   ·exact .inl ⟨h3,h9⟩
   ·rw [h4] at h8;cases h8
  ·rcases h2.o x hx with ⟨h8,h9⟩|⟨o2,o3,h8,h9,h10,h11,h12⟩
   ·rw [h4] at h8;cases h8
   ·rw [h4] at h8
    cases h8
    exact .inr ⟨o,o3,h3,h9,h10.trans h5,h11.trans h6,fun a k=>by rw [h5] at h12;exact (h12 a k).trans (h7 a k)⟩⟩
theorem Nf:∀ {L:List Nat}{i j:Nat}(hi:i<L.length) (hj:j<L.length),i≠j→L[i]+L[j]≤L.sum
 |x :: L,0,0,_,_,h=>absurd rfl h
 |x :: L,0,j+1,_,hj,_=>by
  have:=BG (List.getElem_mem (show j<L.length by simpa using hj))
  rw [List.sum_cons,List.getElem_cons_zero,List.getElem_cons_succ];omega
 |x :: L,i+1,0,hi,_,_=>by
  have:=BG (List.getElem_mem (show i<L.length by simpa using hi))
  rw [List.sum_cons,List.getElem_cons_zero,List.getElem_cons_succ];omega
 |x :: L,i+1,j+1,hi,hj,h=>by
  have:=Nf (L:=L) (i:=i) (j:=j) (by simpa using hi) (by simpa using hj) (by omega)
  rw [List.sum_cons,List.getElem_cons_succ,List.getElem_cons_succ];omega
theorem Vg {i j:Nat}(hi:i<S.Ms.length) (hj:j<S.Ms.length) (h:i≠j) (f:Int):sh (aK S i) f≤nk S j f:=by
 have:=Nf (L:=S.Ms.map fun P=>sh P f) (i:=i) (j:=j) (by simpa using hi) (by simpa using hj) h
 simp only [List.getElem_map] at this
 unfold nk jq
 rw [wy hi,wy hj];omega
theorem yF.Rw {n n':Nat}{P P':PM}{f:Int→Nat}{D D':Nat→Nat→Int}{er:Int}(hok:lX n' P) (h:yF n P f D a k v er P' D') (g:Nat) (hf:f (g:Int)≠0) (j:Nat):D' g j=D g j:=by
 rcases h with ⟨_,_,_,rfl⟩|⟨_,h1,h2,_,_,rfl⟩|⟨_,_,_,_,_,rfl⟩|⟨_,_,x,hg1,hg2,_,_,rfl⟩
 ·rfl
 ·have hp:=tH hok h1
  have hfr:0≤cB P a:=by rcases hok.frame a with e|e;exact absurd e h1;exact e.1
  have hne:g≠(cB P a).toNat:=fun e=>by
   have:((g:Nat):Int)=cB P a:=by omega
   rw [this] at hf;omega
  simp [upd,hne]
 ·rfl
 ·have hne:g≠x:=fun e=>by subst e;omega
  simp [upd,row,hne]
theorem KL {n:Nat}{Q:PM}{D D':Nat→Nat→Int}(hok:lX n Q) (h:∀f:Nat,sh Q (f:Int)≠0→∀j,D' f j=D f j) (a k:Int):fV Q D' a k=fV Q D a k:=by
 unfold fV wd
 split
 ·by_cases e:cB Q a=-1
  ·rw [if_pos e,if_pos e]
  ·rw [if_neg e,if_neg e]
   have hp:=tH hok e
   have hfr:0≤cB Q a:=by rcases hok.frame a with e' | e';exact absurd e' e;exact e'.1
   refine h _ ?_ _
   rw [show (((cB Q a).toNat:Nat):Int)=cB Q a by omega];omega
 ·rfl
theorem yF.vp {er:Int}{P':PM}{D':Nat→Nat→Int}(l:Qq S) (hP:∀x o,S.O x=some o→∃n,lX n (aK S o.j)) (ho:S.O p=some o) (h:yF S.n (aK S o.j) (nk S o.j) S.W a k v er P' D'):Vp S (S.space o.j P' D') p:=
 ⟨rfl,fun _=>rfl,fun x hx=>by
  cases h1:S.O x with
  |none=>exact .inl ⟨rfl,h1⟩
  |some o1=>
   have hne:o1.j≠o.j:=fun e=>hx (l.inj _ _ _ _ h1 ho e)
   refine .inr ⟨o1,o1,rfl,h1,by rw [dS (by rw [l.len];exact l.lt _ _ ho),if_neg hne],rfl,fun b kk=>?_⟩
   obtain ⟨n1,ok1⟩:=hP x o1 h1
   obtain ⟨n2,ok2⟩:=hP p o ho
   refine KL ok1 (fun f hf j=>?_) b kk
   have:=Vg (S:=S) (i:=o1.j) (j:=o.j) (by rw [l.len];exact l.lt _ _ h1) (by rw [l.len];exact l.lt _ _ ho) hne (f:Int)
   exact h.Rw ok2 f (by omega) j⟩
theorem cnt_lt {f g:Int→Bool}(h:∀y,f y=true→g y=true):∀ {L:List Int}{x:Int},x∈L→f x=false→g x=true→L.countP f<L.countP g
 |y :: L,x,hx,h0,h1=>by
  rw [List.countP_cons,List.countP_cons]
  have hm:L.countP f≤L.countP g:=List.countP_mono_left (fun y _ hy=>h y hy)
  rcases List.mem_cons.1 hx with rfl|hx
  ·rw [h0,h1,if_neg (by simp),if_pos rfl];omega
  ·have:=cnt_lt h hx h0 h1
   cases hy:f y with
   |true=>rw [h y hy];simp only [if_true];omega
   |false=>rw [if_neg (by simp)];split<;>omega
theorem Du (kk:pq S) (uH:∀x,(S.P x).isSome=true→1≤x∧x≤24) {x:Int}{ox:Ow}(hx:S.O x=some ox) (c:Int):eY (aM S x ox c)<eY S:=by
 have hr:az S.P x=true:=by rw [←kk.run x,hx];rfl
 have h1:=NZ hr
 have h2:=UZ kk hx c
 have hp:af (aM S x ox c).P=af S.P:=by
  show af (bX S.P x c)=_
  unfold af bX
  simp
 have hm:x∈af S.P:=by
  obtain ⟨q,hq,_⟩:=bq.1 hr
  have:=uH x (by rw [hq];rfl)
  unfold af
  rw [List.mem_filter]
  exact ⟨List.mem_map.2 ⟨(x-1).toNat,List.mem_range.2 (by omega),by omega⟩,by rw [hq];rfl⟩
 unfold eY ny
 rw [hp,←List.countP_eq_length_filter,←List.countP_eq_length_filter]
 refine cnt_lt (fun y hy=>?_) hm (by simp [h2]) (by simp [h1])
 simp only [beq_iff_eq] at hy ⊢
 have hy:gJ (bX S.P x c) y=1:=hy
 rw [rZ] at hy
 split at hy
 ·omega
 ·exact hy
theorem Rt (uH:∀x,(S.P x).isSome=true→1≤x∧x≤24) (x:Int) (ox:Ow) (c:Int):∀y,((aM S x ox c).P y).isSome=true→1≤y∧y≤24:=fun y hy=>by
 have hy:((S.P y).map (iO x c y)).isSome=true:=hy
 rw [Option.isSome_map] at hy
 exact uH y hy
theorem fM.runs {went:List Int}{er:Int}(r:fM p a k v S went er S') (l:Qq S) (kk:pq S) (uH:∀x,(S.P x).isSome=true→1≤x∧x≤24):(went=[]→S'.P=S.P∧S'.O=S.O)∧(went≠[]→eY S'<eY S):=by
 induction r with
 |done ho h h12=>exact ⟨fun _=>⟨rfl,rfl⟩,fun h=>absurd rfl h⟩
 |nobody ho h hv=>exact ⟨fun _=>⟨rfl,rfl⟩,fun h=>absurd rfl h⟩
 |self ho h hv he=>exact ⟨fun h=>(by cases h),fun _=>Du kk uH ho 108⟩
 | @goes S o x ox went er S' ho h hv he hx h1 hne r ih=>
  refine ⟨fun h=>(by cases h),fun _=>?_⟩
  have Ym:=l.lt _ _ hx
  have k1:pq (aM S x ox 108):=kk.ends hx Ym l.len (fun p' o' hp' e=>l.inj _ _ _ _ hp' hx e) 108
  have i:=ih (l.ends 108) k1 (Rt uH x ox 108)
  have h3:=Du kk uH hx 108
  by_cases e:went=[]
  ·have:=(i.1 e).1
   unfold eY at h3 ⊢
   rw [this];exact h3
  ·have:=i.2 e;omega
theorem fM.vp {went:List Int}{er:Int}(r:fM p a k v S went er S') (l:Qq S) (hP:∀x o,S.O x=some o→∃n,lX n (aK S o.j)) (hw:went=[]):Vp S S' p:=by
 cases r with
 |done ho h h12=>exact h.vp l hP ho
 |nobody ho h hv=>exact .refl S p
 |self ho h hv he=>cases hw
 |goes ho h hv he hx h1 hne r=>cases hw
theorem R5 (S:KS) (p sig:Int):Vp S (S.procs (if fP S.P p sig=0 then ku S.P p sig else S.P)) p:=(R4 S p sig).vp p
end
section
variable {w:World}{m:Int}{H:KH}{S S':KS}{q:Nat}{A:Nat→Prop}{p a b c:Int}{s t:List UInt8}{o:Ow}
theorem KN.ZN (hn:KN w m H S q A):∀x o,S.O x=some o→∃n,lX n (aK S o.j):=fun x o hx=>
 hn.1.Yg (hn.lie.lt x o hx) (fun _ _ _ _ vs=>⟨_,vs.ok⟩)
theorem KN.p24 (hn:KN w m H S q A):∀x,(S.P x).isSome=true→1≤x∧x≤24:=fun x hx=>by
 obtain ⟨⟨G,g,_⟩,_⟩:=hn
 obtain ⟨c,qj⟩:=g.qj
 obtain ⟨r,hr⟩:=Option.isSome_iff_exists.1 hx
 have:=qj.key x r hr
 exact ⟨this.1,this.2⟩
theorem aX.apart {W e:Int}(r:aX S p a b c s t W e S') (hn:KN w m H S q A) (hW:¬(W<3∨W=4∨W=20∨W=21)) (hr:eY S'=eY S):Vp S S' p:=by
 have l:=hn.lie
 cases r with
 |nobody ho hW=>exact .refl S p
 |other hW=>exact .refl S p
 |full hW' ho hc=>omega
 |fork hW' ho hc=>omega
 |exit ho=>omega
 | @exec o ho=>
  exact (Vp.space l ho jW).trans (Vp.files (S:=S.space o.j jW S.W) ⟨by show (S.Ms.set _ _).length=S.Ts.length;rw [List.length_set];exact l.len,l.lt,l.inj⟩ ho _ _)
 |wait ho=>omega
 |map hW' ho=>
  unfold jy
  split
  ·exact .space l ho _
  ·exact .refl S p
 |uI ho=>exact .space l ho _
 | @store _ o went er S2 hW' ho r=>
  have h1:=r.runs l hn.2 hn.p24
  by_cases e:went=[]
  ·exact r.vp l hn.ZN e
  ·have:=h1.2 e;omega
 |file hW' ho hn' hk r=>
  rcases r with ⟨_,_,_,rfl⟩|⟨_,D',N',_,rfl⟩
  ·exact .refl _ p
  ·exact .files l ho _ _
 |pipe ho hn' r=>
  rcases r with ⟨_,_,_,_,rfl⟩|⟨_,D',N',_,rfl⟩
  ·exact .refl _ p
  ·exact .files l ho _ _
 |dup ho=>
  unfold qi
  split
  ·exact .files l ho _ _
  ·exact .refl S p
 |dup2 ho=>
  unfold iB
  split
  ·exact .files l ho _ _
  ·exact .refl S p
 |close ho=>exact .files l ho _ _
 | @write o ho=>
  have h1:Vp S (S.files (CB S o a s).2.2 o.j (ax S o.j)) p:=.files l ho _ _
  unfold jh
  split
  ·exact h1.trans (R5 (S.files (CB S o a s).2.2 o.j (ax S o.j)) p 5)
  ·exact h1
 |read ho=>exact .files l ho _ _
 |limit ho=>exact .own _
 |kill ho=>omega
 |signal ho h1 hs=>omega
 |quiet ho hs=>exact .refl S p
 |first ho h1=>omega
 |CX ho hk r=>exact .tree _
 |unlink ho=>exact .tree _
 |rename ho=>exact .tree _
 |nE ho=>exact .space l ho _
 |mark yes ho=>exact .files l ho _ _
 |wK ho=>
  unfold uM
  split
  ·exact .own _
  ·exact .refl S p
end
section
variable {S S':KS}{p a b c k v:Int}{s t:List UInt8}{o:Ow}
theorem fM.n {went:List Int}{er:Int}(r:fM p a k v S went er S'):S'.n=S.n:=by
 induction r with
 |done ho h h12=>rfl
 |nobody ho h hv=>rfl
 |self ho h hv he=>rfl
 |goes ho h hv he hx h1 hne r ih=>exact ih
theorem aX.n {W e:Int}(r:aX S p a b c s t W e S'):S'.n=S.n:=by
 cases r with
 |nobody ho hW=>rfl
 |other hW=>rfl
 |full hW ho hc=>rfl
 |fork hW ho hc=>rfl
 |exit ho=>unfold nC;split<;>rfl
 |exec ho=>rfl
 |wait ho=>rfl
 |map hW ho=>unfold jy;split<;>rfl
 |uI ho=>rfl
 |store hW ho r=>exact r.n
 |file hW ho hn hk r=>
  rcases r with ⟨_,_,_,rfl⟩|⟨_,_,_,_,rfl⟩<;>rfl
 |pipe ho hn r=>
  rcases r with ⟨_,_,_,_,rfl⟩|⟨_,_,_,_,rfl⟩<;>rfl
 |dup ho=>unfold qi;split<;>rfl
 |dup2 ho=>unfold iB;split<;>rfl
 |close ho=>rfl
 |write ho=>unfold jh;split<;>rfl
 |read ho=>rfl
 |limit ho=>rfl
 |kill ho=>rfl
 |signal ho h1 hs=>rfl
 |quiet ho hs=>rfl
 |first ho h1=>rfl
 |CX ho hk r=>rfl
 |unlink ho=>rfl
 |rename ho=>rfl
 |nE ho=>rfl
 |mark yes ho=>rfl
 |wK ho=>unfold uM;split<;>rfl
end
structure Vr (S S':KS):Prop where
 n:S'.n=S.n
 ms:∀x,0≤x→jq S'.Ms x=jq S.Ms x
 e:∀x,(S'.D.E x).isSome=(S.D.E x).isSome
 t:∀x,(S'.D.T x).isSome=(S.D.T x).isSome
 v:Vp S S' 0
section
variable {S S':KS}{no nt:Nat}
theorem Vr.open (h:Vr S S') (hn:qa S.D.E no):qa S'.D.E no:=by
 obtain ⟨ks,h1,h2,h3⟩:=hn
 exact ⟨ks,h1,h2,fun x=>by rw [h.e x];exact h3 x⟩
theorem Vr.nodes (h:Vr S S') (hn:dm S.D.T nt):dm S'.D.T nt:=by
 obtain ⟨ks,h1,h2,h3⟩:=hn
 exact ⟨ks,h1,h2,fun x=>by rw [h.t x];exact h3 x⟩
theorem Vr.all (h:Vr S S'):allT S' no nt 0=allT S no nt 0:=by
 have hb:wo S' 0=wo S 0:=by
  funext x
  unfold wo
  split
  ·rfl
  ·rename_i hx;exact h.v.row hx
 unfold allT dP oD
 rw [h.v.jr,hb,h.n,qI h.ms]
end
structure Rx (D0 D:DS):Prop where
 T:D.T=D0.T
 E:∀x,(D0.E x).isSome=true→D.E x=D0.E x
 K:∀d e,D.E d=some e→(D0.E d).isSome=true∨e.kind≠1
section
variable {D0 D D':DS}{N:Ns}{Ts:List Ns}{k k0:Nat}{d:Int}
theorem Rx.same (h:Rx D0 D) (h1:D'.T=D.T) (h2:D'.E=D.E):Rx D0 D':=⟨h1.trans h.T,fun x hx=>by rw [h2];exact h.E x hx,fun d e he=>by rw [h2] at he;exact h.K d e he⟩
theorem Rx.refl (D:DS):Rx D D:=⟨rfl,fun _ _=>rfl,fun d e he=>.inl (by rw [he];rfl)⟩
theorem Rx.forks (D:DS) (N:Ns):Rx D (gW D N):=by
 have:∀(N:Ns) (D:DS),(gW D N).T=D.T∧(gW D N).E=D.E:=by
  intro N
  unfold gW
  induction N with
  |nil=>intro D;exact ⟨rfl,rfl⟩
  |cons x N ih=>
   intro D
   rw [List.foldl_cons]
   obtain ⟨a,b⟩:=ih (if 0<x.1 then ib D x.1 else D)
   rw [a,b]
   split<;>exact ⟨rfl,rfl⟩
 exact (Rx.refl D).same (this N D).1 (this N D).2
theorem Rx.add (h:Rx D0 D) (g:D.E (D.nx+1)=none) (e:En) (hk:e.kind≠1):Rx D0 (iW D e):=by
 refine ⟨h.T,fun x hx=>?_,fun d e' he=>?_⟩
 ·show (if x=D.nx+1 then some e else D.E x)=_
  have:x≠D.nx+1:=fun z=>by
   have h1:=h.E x hx
   rw [z,g] at h1
   rw [z,←h1] at hx;cases hx
  rw [if_neg this];exact h.E x hx
 ·have he:(if d=D.nx+1 then some e else D.E d)=some e':=he
  split at he
  ·cases he;exact .inr hk
  ·exact h.K d e' he
theorem Rx.pipe (h:Rx D0 D) (g:Given D) (hn:D.nx<890):Rx D0 (rC D):=by
 have g0:=g.TI (by omega)
 have h0:Rx D0 (jG D):=h.same rfl rfl
 have h1:=h0.add g0.new.1 ⟨2,1,0,D.nx+1,0⟩ (by simp)
 have g1:=g0.add (by show D.nx+1<899;omega) ⟨2,1,0,D.nx+1,0⟩
 exact h1.add g1.new.1 ⟨3,2,0,D.nx+1,0⟩ (by simp)
theorem Rx.close (h:Rx D0 D) (hc:(D0.E d).isSome=true→∃c,D.R d=some c∧1<c):Rx D0 (aQ D d):=by
 unfold aQ
 split
 ·rename_i e c he hr
  split
  ·exact h.same rfl rfl
  ·rename_i hc1
   have hno:¬(D0.E d).isSome=true:=fun z=>by
    obtain ⟨c',h1,h2⟩:=hc z
    rw [hr] at h1;cases h1;omega
   have hk:e.kind≠1:=(h.K d e he).resolve_left hno
   rw [if_neg hk]
   refine ⟨h.T,fun x hx=>?_,fun d' e' he'=>?_⟩
   ·show (if x=d then none else D.E x)=_
    rw [if_neg (fun z:x=d=>hno (by rw [←z];exact hx))];exact h.E x hx
   ·have he':(if d'=d then none else D.E d')=some e':=he'
    split at he'
    ·cases he'
    ·exact h.K d' e' he'
 ·exact h
theorem Ed (d:Int) (Ts:List Ns) (N:Ns):fB d (Ts ++ [N])=fB d Ts+om d N:=by unfold fB;simp
theorem rJ {α:Type} (L:List α) (x y:α):(L ++ [x]).set L.length y=L ++ [y]:=by simp
theorem MO (i0:Inv D0 Ts k0) (i1:Inv D (Ts ++ [N]) k) {i:Nat}(hi:i<N.length) (h0:0<N[i].1) (hs:(D0.E N[i].1).isSome=true):∃c,D.R N[i].1=some c∧1<c:=by
 have h1:0<fB N[i].1 Ts:=(i0.core.cE _ h0).1 hs
 have h2:=Ef hi
 have h3:D.R N[i].1=if 0<fB N[i].1 (Ts ++ [N]) then some (fB N[i].1 (Ts ++ [N]):Int) else none:=i1.core.cR _ h0
 have h4:=Ed N[i].1 Ts N
 rw [if_pos (by omega)] at h3
 exact ⟨_,h3,by omega⟩
theorem Rx.closes (h:Rx D0 D) (i0:Inv D0 Ts k0) (i1:Inv D (Ts ++ [N]) k) (hN:N.length=8) (x:Int):Rx D0 (fK D N x):=by
 unfold fK
 split
 ·rename_i hx
  obtain ⟨i,rfl,hi,aF,h0⟩:=dK hx hN
  rw [getD_in aF]
  exact h.close (MO i0 i1 aF h0)
 ·exact h
theorem Rx.aas (h:Rx D0 D) (i0:Inv D0 Ts k0) (i1:Inv D (Ts ++ [N]) k) (hN:N.length=8) (x y:Int):Rx D0 (eB D N x y):=by
 unfold eB
 split
 ·rename_i hz
  have hI:Rx D0 (ib D (N.getD x.toNat (0,false)).1):=h.same rfl rfl
  split
  ·exact hI
  ·rename_i hy
   have hy8:0≤y∧y≤7:=by
    have h1:=hz.1
    unfold eu at h1
    split at h1
    ·split at h1
     ·assumption
     ·omega
    ·omega
   have WH:y.toNat<N.length:=by omega
   have e:N.getD y.toNat (0,false)=N[y.toNat]:=by rw [List.getD_eq_getElem?_getD,List.getElem?_eq_getElem WH];rfl
   rw [e] at hy ⊢
   have h0:0<N[y.toNat].1:=by have:=((i1.tab N (by simp)).2 _ (List.getElem_mem WH)).1;omega
   refine hI.close fun hs=>?_
   obtain ⟨c,h1,h2⟩:=MO i0 i1 WH h0 hs
   by_cases e2:N[y.toNat].1=(N.getD x.toNat (0,false)).1
   ·exact ⟨(D.R N[y.toNat].1).getD 0+1,if_pos e2,by rw [h1];show 1<c+1;omega⟩
   ·exact ⟨c,(if_neg e2).trans h1,h2⟩
 ·exact h
theorem Rx.free (h:Rx D0 D) (i0:Inv D0 Ts k0) (i1:Inv D (Ts ++ [N]) k) (hk:k≤900) (hN:N.length=8):∀i,i≤8→Rx D0 (ai true D N i).1
 |0,_=>h
 |i+1,hi=>by
  have ih:=Rx.free h i0 i1 hk hN i (by omega)
  have hj:Ts.length<(Ts ++ [N]).length:=by simp
  have hg:(Ts ++ [N])[Ts.length]=N:=by simp
  have iv:=i1.free hk hj true i (by omega)
  simp only [hg,rJ] at iv
  rw [ai]
  split
  ·rename_i hc
   have Ul:i<N.length:=by omega
   have Fa:i<(ai true D N i).2.length:=by rw [(fH true D N i).1];exact Ul
   have hgi:=rY (all:=true) (D:=D) Ul Fa
   have hD:N.getD i (0,false)=N[i]:=by rw [List.getD_eq_getElem?_getD,List.getElem?_eq_getElem Ul];rfl
   rw [hD] at hc
   simp only [hD]
   rw [←hgi]
   exact ih.close (MO i0 iv Fa (by rw [hgi];exact hc.1))
  ·exact ih
end
structure Rd (S0 S1:KS) (c:Int) (S:KS):Prop where
 v:Vp S1 S c
 n:S.n=S0.n
 P:S.P=S1.P
 x:Rx S0.D S.D
 ts:∃N,S.Ts=S0.Ts ++ [N]
 ms:∃M,S.Ms=S0.Ms ++ [M]
 O:S.O=S1.O
section
variable {w:World}{m:Int}{H:KH}{S S' S0 S1:KS}{q k0:Nat}{A:Nat→Prop}{p a b c d:Int}{s t:List UInt8}{o:Ow}
theorem Rd.start (S0:KS) (p:Int) (o:Ow) (c:Int):Rd S0 (dx S0 p o) c (dx S0 p o):=
 ⟨.refl _ c,rfl,rfl,Rx.forks S0.D (ax S0 o.j),⟨_,rfl⟩,⟨_,rfl⟩,rfl⟩
theorem Rd.space (h:Rd S0 S1 c S) (hj:o.j=S0.Ms.length) {P':PM}{D':Nat→Nat→Int}(v:Vp S1 (S.space o.j P' D') c):Rd S0 S1 c (S.space o.j P' D'):=
 ⟨v,h.n,h.P,h.x,h.ts,by obtain ⟨M,e⟩:=h.ms;exact ⟨P',by show S.Ms.set o.j P'=_;rw [e,hj,rJ]⟩,h.O⟩
theorem Rd.files (h:Rd S0 S1 c S) (hj:o.j=S0.Ts.length) {D':DS}{N':Ns}(v:Vp S1 (S.files D' o.j N') c) (hx:Rx S0.D D'):Rd S0 S1 c (S.files D' o.j N'):=
 ⟨v,h.n,h.P,hx,by obtain ⟨M,e⟩:=h.ts;exact ⟨N',by show S.Ts.set o.j N'=_;rw [e,hj,rJ]⟩,h.ms,h.O⟩
theorem Rd.call {W e:Int}(r:aX S c a b d s t W e S') (hn:KN w m H S q A) (hq:q≤90) (i0:Inv S0.D S0.Ts k0) (hl0:S0.Ms.length=S0.Ts.length) {o1:Ow}(ho1:S1.O c=some o1) (hj1:o1.j=S0.Ts.length) (h:Rd S0 S1 c S) (hW:¬(W<5∨W=11∨W=12∨16<W∧W≠25∧W≠26)) (hr:eY S'=eY S):Rd S0 S1 c S':=by
 have v:=h.v.trans (r.apart hn (by omega) hr)
 have hO:∀o,S.O c=some o→o.j=S0.Ts.length:=fun o ho=>by
  rw [h.O,ho1] at ho;rw [←Option.some.inj ho];exact hj1
 obtain ⟨N,hN⟩:=h.ts
 have i1:=hn.1.inv
 rw [hN] at i1
 have hT:∀o,S.O c=some o→ax S o.j=N:=fun o ho=>by
  rw [hO o ho];unfold ax;rw [hN];simp
 have Yx:N.length=8:=(i1.tab N (by simp)).1
 have hnx:S.D.nx<890:=by
  obtain ⟨⟨G,k,_⟩,_⟩:=hn
  have:=k.nx;omega
 cases r with
 |nobody ho hW=>exact h
 |other hW=>exact h
 |full hW' ho hc=>omega
 |fork hW' ho hc=>omega
 |exit ho=>omega
 |exec ho=>omega
 |wait ho=>omega
 |map hW' ho=>
  unfold jy at v ⊢
  split
  ·rename_i hz;rw [if_pos hz] at v;exact h.space (by rw [hl0];exact hO _ ho) v
  ·exact h
 |uI ho=>exact h.space (by rw [hl0];exact hO _ ho) v
 | @store _ o went er S2 hW' ho r=>
  have h1:=r.runs hn.lie hn.2 hn.p24
  by_cases e:went=[]
  ·cases r with
   |done ho h9 h12=>exact h.space (by rw [hl0];exact hO _ ho) v
   |nobody ho h9 hv=>exact h
   |self ho h9 hv he=>cases e
   |goes ho h9 hv he hx h1 hne r=>cases e
  ·have:=h1.2 e;omega
 |file hW' ho hn' hk r=>omega
 | @pipe o n x y e S' ho hn' r=>
  rcases r with ⟨_,_,_,_,rfl⟩|⟨_,D',N',hF,rfl⟩
  ·exact h
  ·refine h.files (hO _ ho) v ?_
   rcases hF with ⟨_,_,_,_,rfl,_⟩|⟨_,_,_,_,rfl,_⟩
   ·exact h.x
   ·exact h.x.pipe hn.1.inv.core.iV hnx
 |dup ho=>
  unfold qi at v ⊢
  split
  ·rename_i hz
   rw [if_pos hz] at v
   refine h.files (hO _ ho) v ?_
   unfold jR
   split
   ·exact h.x.same rfl rfl
   ·exact h.x
  ·exact h
 |dup2 ho=>
  unfold iB at v ⊢
  split
  ·rename_i hz
   rw [if_pos hz] at v
   refine h.files (hO _ ho) v ?_
   rw [hT _ ho]
   exact h.x.aas i0 i1 Yx _ _
  ·exact h
 |close ho=>
  refine h.files (hO _ ho) v ?_
  rw [hT _ ho]
  exact h.x.closes i0 i1 Yx _
 |write ho=>omega
 |read ho=>omega
 |limit ho=>omega
 |kill ho=>omega
 |signal ho h1 hs=>omega
 |quiet ho hs=>omega
 |first ho h1=>omega
 |CX ho hk r=>omega
 |unlink ho=>omega
 |rename ho=>omega
 |nE ho=>exact h.space (by rw [hl0];exact hO _ ho) v
 |mark yes ho=>exact h.files (hO _ ho) v h.x
 |wK ho=>omega
theorem Lf {α:Type} {f:α→Bool}{L:List α}{x:α}(hx:x∈L) (h1:f x=true) (h2:∀y∈L,f y=true→y=x):L.find? f=some x:=by
 cases h:L.find? f with
 |none=>exact absurd h1 (by have:=List.find?_eq_none.1 h x hx;exact this)
 |some y=>rw [h2 y (List.mem_of_find?_eq_some h) (List.find?_some h)]
theorem EE {P:Ps}(h:lV P) (hr:az P p=true) (hc:mo P c) (uH:c≤24) (hw:(aI P p).2.2.1≠0) (code:Int):aI (bX (dw P p c) c code) p=(c,code,0,P):=by
 obtain ⟨qp,WK,hsp⟩:=bq.1 hr
 have hpc:p≠c:=fun e=>by rw [e,hc.no] at WK;cases WK
 have e2:bX (dw P p c) c code=j5 P c ⟨p,2,code,dI,Jm P p⟩:=by
  funext x
  unfold bX dw
  by_cases e:x=c
  ·subst e
   rw [dN,dN]
   show some (iO x code x _)=_
   unfold iO
   simp only [if_true]
   rw [if_neg hpc]
  ·rw [iQ e,iQ e]
   cases hx:P x with
   |none=>rfl
   |some r=>
    have hne:r.parent≠c:=fun z=>by
     by_cases h1:x=1
     ·obtain ⟨p1,e1,_,e3⟩:=h.one
      rw [h1,e1] at hx
      cases hx
      have:=hc.pos;omega
     ·have:=(h.par x r hx h1).1
      rw [z] at this
      obtain ⟨q9,h9,_⟩:=bq.1 this
      rw [hc.no] at h9;cases h9
    show some (iO c code x r)=some r
    unfold iO
    simp only [if_neg e,if_neg hne]
 rw [e2]
 have hst:∀x,x≠c→j5 P c ⟨p,2,code,dI,Jm P p⟩ x=P x:=fun x hx=>iQ hx
 have nX:az (j5 P c ⟨p,2,code,dI,Jm P p⟩) p=true:=bq.2 ⟨qp,by rw [hst p hpc];exact WK,hsp⟩
 have hno:∀x∈af P,rE P p x=false:=by
  unfold aI at hw
  rw [if_neg (by rw [hr];simp)] at hw
  split at hw
  ·exact absurd rfl hw
  ·rename_i hf
   intro x hx
   have:=List.find?_eq_none.1 hf x hx
   simpa using this
 have hf:(af (j5 P c ⟨p,2,code,dI,Jm P p⟩)).find? (rE (j5 P c ⟨p,2,code,dI,Jm P p⟩) p)=some c:=by
  refine Lf ?_ ?_ (fun y hy hd=>?_)
  ·unfold af
   rw [List.mem_filter]
   have:=hc.pos
   exact ⟨List.mem_map.2 ⟨(c-1).toNat,List.mem_range.2 (by omega),by omega⟩,by rw [dN];rfl⟩
  ·unfold rE
   rw [jY (dN _ _ _),gq (dN _ _ _)]
   simp
  ·refine Classical.byContradiction fun hne=>?_
   have hy':y∈af P:=by
    unfold af at hy ⊢
    rw [List.mem_filter] at hy ⊢
    rw [hst y hne] at hy
    exact hy
   have h5:=hno y hy'
   unfold rE sW gJ at h5 hd
   rw [hst y hne] at hd
   rw [h5] at hd
   cases hd
 unfold aI
 rw [if_neg (by rw [nX];simp),hf]
 simp only [Prod.mk.injEq,true_and]
 refine ⟨?_,?_⟩
 ·unfold CY;rw [dN];rfl
 ·funext x
  by_cases e:x=c
  ·rw [e,hc.no];exact if_pos rfl
  ·rw [vS e,iQ e]
theorem Rd.ends {q0 q2:Nat}{H0 H2:KH}{A0 A2:Nat→Prop}{w0 w2:World}(h:Rd S0 (dx S0 p o) (ay S0.P) S) (k0:KN w0 m H0 S0 q0 A0) (hn:KN w m H S q A) (hq:q≤90) (hj:lV S0.P) (hp:S0.O p=some o) (hc:(af S0.P).length<24) (hw:(aI S0.P p).2.2.1≠0) {oc:Ow}(ho:S.O (ay S0.P)=some oc) (code:Int)
 (k2:KN w2 m H2 (aM S (ay S0.P) oc code) q2 A2) :
 aI (aM S (ay S0.P) oc code).P p=(ay S0.P,code,0,S0.P)∧Vr S0 ((aM S (ay S0.P) oc code).procs S0.P):=by
 obtain ⟨c,Mk,uH⟩:=mo.ex hj.CV hc
 have hl:=jd Mk uH
 rw [hl] at h ho k2 ⊢
 have hr:az S0.P p=true:=by rw [←k0.2.run p,hp];rfl
 have hOc:S0.O c=none:=by
  have h1:=k0.2.run c
  unfold az at h1
  rw [il Mk.no] at h1
  cases z:S0.O c with
  |none=>rfl
  |some y=>rw [z] at h1;simp at h1
 have hP:(aM S c oc code).P=bX (dw S0.P p c) c code:=by
  show bX S.P c code=_
  rw [h.P]
  show bX (dw S0.P p (ay S0.P)) c code=_
  rw [hl]
 have hW:=EE hj hr Mk uH hw code
 refine ⟨by rw [hP];exact hW,?_⟩
 have hO:S.O=iX S0.O c ⟨S0.Ts.length,o.m,o.dF⟩:=by
  rw [h.O]
  show iX S0.O (ay S0.P) _=_
  rw [hl]
 have UB:oc.j=S0.Ts.length:=by
  rw [hO,df] at ho
  rw [←Option.some.inj ho]
 obtain ⟨N,hN⟩:=h.ts
 obtain ⟨M,hM⟩:=h.ms
 have hlen:=k0.lie.len
 have eTs:(aM S c oc code).Ts=S0.Ts ++ [bn]:=by show S.Ts.set oc.j bn=_;rw [hN,UB,rJ]
 have eMs:(aM S c oc code).Ms=S0.Ms ++ [jW]:=by show S.Ms.set oc.j jW=_;rw [hM,UB,←hlen,rJ]
 have i1:=hn.1.inv
 rw [hN] at i1
 have hT:ax S oc.j=N:=by rw [UB];unfold ax;rw [hN];simp
 have Yx:N.length=8:=(i1.tab N (by simp)).1
 have hX:Rx S0.D (ai true S.D (ax S oc.j) 8).1:=by
  rw [hT]
  exact h.x.free k0.1.inv i1 (by omega) Yx 8 (Nat.le_refl _)
 refine ⟨h.n,fun f hf=>?_,fun x=>?_,fun x=>?_,⟨rfl,fun _=>rfl,fun x hx=>?_⟩⟩
 ·show jq (aM S c oc code).Ms f=_
  rw [eMs]
  unfold jq
  rw [List.map_append,List.sum_append]
  have:sh jW f=0:=Br hf (fun a=>by show (-1:Int)≠f;omega)
  simp [this]
 ·show ((aM S c oc code).D.E x).isSome=_
  have i2:=k2.1.inv
  rw [eTs] at i2
  by_cases h0:0<x
  ·have h1:((aM S c oc code).D.E x).isSome=true↔0<fB x (S0.Ts ++ [bn]):=i2.core.cE x h0
   have h2:(S0.D.E x).isSome=true↔0<fB x S0.Ts:=k0.1.inv.core.cE x h0
   rw [Ed,show om x bn=0 by
    have:x≠0:=by omega
    simp [om,bn,List.replicate,Ne.symm this],Nat.add_zero,←h2] at h1
   exact Bool.eq_iff_iff.2 h1
  ·have h1:(aM S c oc code).D.E x=none:=by
    cases e:(aM S c oc code).D.E x with
    |none=>rfl
    |some z=>exact absurd (i2.core.iV.e x (by rw [e];rfl)).1 h0
   have h2:S0.D.E x=none:=by
    cases e:S0.D.E x with
    |none=>rfl
    |some z=>exact absurd (k0.1.inv.core.iV.e x (by rw [e];rfl)).1 h0
   rw [h1,h2]
 ·show ((ai true S.D (ax S oc.j) 8).1.T x).isSome=_
  rw [hX.T]
 ·show _∨∃o1 o2,_∧iL S.O c x=some o2∧_
  have hd:iL S.O c x=S0.O x:=by
   unfold iL
   by_cases e:x=c
   ·rw [if_pos e,e,hOc]
   ·rw [if_neg e,hO,dQ e]
  cases z:S0.O x with
  |none=>exact .inl ⟨rfl,by show iL S.O c x=none;rw [hd,z]⟩
  |some ox=>
   have hxc:x≠c:=fun e=>by rw [e,hOc] at z;cases z
   have hlt:=k0.lie.lt x ox z
   refine .inr ⟨ox,ox,rfl,by rw [hd,z],?_,?_,fun a k=>?_⟩
   ·show aK (aM S c oc code) ox.j=_
    unfold aK
    rw [eMs,List.getD_eq_getElem?_getD,List.getD_eq_getElem?_getD,List.getElem?_append_left (by omega)]
   ·show aj (ax (aM S c oc code) ox.j)=_
    unfold ax
    rw [eTs,List.getD_eq_getElem?_getD,List.getD_eq_getElem?_getD,List.getElem?_append_left (by omega)]
   ·show fV (aK S0 ox.j) S.W a k=_
    have e1:(dx S0 p o).O x=some ox:=by
     show iX S0.O (ay S0.P) _ x=_
     rw [hl,dQ hxc];exact z
    have e2:aK (dx S0 p o) ox.j=aK S0 ox.j:=by
     show aK ((S0.procs (dw S0.P p (ay S0.P))).born o.j) ox.j=_
     rw [BD _ (show (S0.procs (dw S0.P p (ay S0.P))).Ms.length=(S0.procs (dw S0.P p (ay S0.P))).Ts.length from hlen),if_neg (by show ¬ox.j=S0.Ts.length;omega)]
     rfl
    rcases h.v.o x hxc with ⟨h1,_⟩|⟨o1,o2,h1,h2,h3,h4,h5⟩
    ·rw [e1] at h1;cases h1
    ·rw [e1] at h1
     obtain rfl:=Option.some.inj h1
     rw [e2] at h5
     exact h5 a k
end
end Go.Proofs.YtcfhanoekniaaaaGreatDoor
namespace Go.Proofs.YtcfhanoekniaaaaGreatDoor
open Go.RowKit Go.Maps
section
variable {w0 w w':World}{m:Int}{kb q:Nat}{C:Hg}{S:KS}{p:Int}{o:Ow}
def memT (S:KS) (o:Ow):List UInt8:=Fe (aK S o.j) S.W 48
theorem KC.memory (h:KC w0 w m kb C S q) (ho:S.O p=some o) (hD:jF S.W) (hp:Pow w) :
 Calls Tryz.prog 106 #[wp kb,.int .i64 p] w fun e w'=>e=.returned (.string ⟨(memT S o).toArray⟩)∧Below w.heap.size w w':=by
 have hgl:0<w.heap.size:=World.block_lt_of_cell? w _ h.er
 have hg:=h.er
 have hgw:∀w',Below w.heap.size w w'→w'.cell? ⟨0,0,none⟩=some fJ:=fun w' h=>by rw [h.cell (p:=⟨0,0,none⟩) hgl];exact hg
 have Zm:=fun wx (hbx:Below w.heap.size w wx) (a k:Int) ha=>(h.below hbx).load ho a k ha
 unfold memT
 generalize aK S o.j=P at *
 generalize S.W=D at *
 have hI0:=Lib.fresh_isBuilder 302 5 w
 have hB0:Below w.heap.size w (w.alloc (.cells #[.pointer none,.slice none 0 0] 302)):=(Below.refl _ w).alloc (Nat.le_refl _) _
 clear h ho hg
 go_enter Tryz.func106,Tryz.ntmps106
 go_wp2_with fail
 go_loopg [6,7,8,9] 6 (fun mm s6 _ _ _ wr=>∃a:Nat,a+mm=6∧s6=.int .i64 (a:Int)∧Lib.IsBuilder 302 5 w.heap.size w.heap.size (Lib.byteCells (Fe P D (a*8))) wr∧Below w.heap.size w wr)
 case atStart=>exact ⟨0,by omega,rfl,hI0,hB0⟩
 case round=>
  clear hI0 hB0
  obtain ⟨a,ha,rfl,hI,hB⟩:=hrel
  by_cases hlt:(a:Int)<6
  ·obtain ⟨G,hG⟩:∃G,gk=G:=⟨_,rfl⟩
   rw [hG] at ha
   go_wp2_with fail
   go_loopg [7,8,9] 8 (fun mm s7 _ _ wi=>∃k:Nat,k+mm=8∧s7=.int .i64 (k:Int)∧Lib.IsBuilder 302 5 w.heap.size w.heap.size (Lib.byteCells (Fe P D (a*8+k))) wi∧Below w.heap.size w wi)
   case atStart=>exact ⟨0,by omega,rfl,hI,hB⟩
   case round=>
    clear hI hB
    obtain ⟨k,hk,rfl,hI,hB⟩:=hrel
    by_cases hlk:(k:Int)<8
    ·have hld:=Zm _ hB (a:Int) (k:Int) (yH (by omega))
     have hb1:=hD.load P (a:Int) (k:Int)
     have hb2:=xC P (a:Int) (k:Int) 1
     have hnx:=xx P D (a*8+k)
     have hen:eF P D (a*8+k)=Lib.itoa (fV P D (a:Int) (k:Int)) ++ [44] ++ Lib.decDigits (eP P (a:Int) (k:Int) 1).toNat ++ [59]:=by
      unfold eF;rw [show (a*8+k) / 8=a by omega,show (a*8+k) % 8=k by omega]
     have hbl:=Ca hD P (a*8+k)
     have hel:=I6 hD P (a*8+k)
     rw [hen] at hnx hel
     obtain ⟨er,her⟩:∃er:Nat,eP P (a:Int) (k:Int) 1=(er:Int):=⟨(eP P (a:Int) (k:Int) 1).toNat,by omega⟩
     rw [her] at hld hb2 hnx hel
     rw [Int.toNat_natCast] at hnx hel
     generalize fV P D (a:Int) (k:Int)=V at *
     generalize hbs:Fe P D (a*8+k)=bs at *
     have hF:=fun wx (hbx:Below w.heap.size w wx)=>Gy V hb1.1 hb1.2 wx (hp.below hbx)
     have hT:=fun wx (hbx:Below w.heap.size w wx)=>mD (er:Int) wx (hgw wx hbx)
     have hIt:=cu er (by omega)
     have hstr:((⟨(Lib.itoa V).toArray⟩:ByteArray) ++ ⟨#[44]⟩ ++ ⟨(Lib.decDigits er).toArray⟩ ++ ⟨#[59]⟩:ByteArray)=⟨(Lib.itoa V ++ [44] ++ Lib.decDigits er ++ [59]).toArray⟩:=by
      apply ByteArray.ext;simp
     have hl1:=Lib.itoa_length_le V hb1.1 hb1.2
     have hl2:=dH (i:=er) (by omega)
     generalize (Lib.itoa V ++ [44] ++ Lib.decDigits er ++ [59])=S9 at *
     have hlenS:bs.length+S9.length≤1000000:=by omega
     generalize Lib.itoa V=S1 at *
     generalize Lib.decDigits er=S2 at *
     have hc1:¬9223372036854775807<S1.length+1:=by omega
     have hc2:¬9223372036854775807<S1.length+1+S2.length:=by omega
     have hc3:¬9223372036854775807<S1.length+1+S2.length+1:=by omega
     clear hD hel hbl hb1 hen her Zm
     go_wp2_with fail
     refine hld.mono ?_
     rintro e w1 ⟨rfl,b1⟩
     have hI1:=jI hI b1
     have hB1:=hB.trans (b1.mono hB.size)
     go_wp2_with fail
     refine (hF _ hB1).mono ?_
     rintro e w2 ⟨rfl,b2⟩
     have hI2:=jI hI1 b2
     have hB2:=hB1.trans (b2.mono hB1.size)
     go_wp2_with fail
     refine (hT _ hB2).mono ?_
     rintro e w3 ⟨rfl,b3⟩
     have YD:=jI hI2 b3
     have hB3:=hB2.trans (b3.mono hB2.size)
     go_wp2_with fail
     refine (hIt _).mono ?_
     rintro e w4 ⟨rfl,h4⟩
     subst w4
     go_wp2_with fail
     refine (FP _ _ bs S9 w3 YD hlenS hB3.size).mono ?_
     rintro e w5 ⟨u,rfl,hI5,b5⟩
     go_wp2_with fail
     go_roundg (8-(k+1))
     case measure=>omega
     case rel=>exact ⟨k+1,by omega,by go_num,by rw [show a*8+(k+1)=a*8+k+1 by omega,hnx];exact hI5,hB3.trans b5⟩
    ·have hk8:k=8:=by omega
     subst hk8
     go_wp2_with fail
     go_roundg (6-(a+1))
     case measure=>omega
     case rel=>exact ⟨a+1,by omega,by go_num,by rw [show (a+1)*8=a*8+8 by omega];exact hI,hB⟩
  ·have aal:a=6:=by omega
   subst aal
   have hne:Fe P D (6*8)≠[]:=by
    rw [show 6*8=47+1 from rfl,xx];simp [eF]
   have hTx:=NS w.heap.size w.heap.size (Fe P D (6*8)) wr hI hne
   clear hD Zm hgw hp
   go_wp2_with fail
   refine hTx.mono ?_
   rintro e w1 ⟨rfl,b1⟩
   go_wp2_with fail
   go_ret
   exact ⟨rfl,hB.trans b1⟩
end
theorem mg (a b:List UInt8):((⟨a.toArray⟩:ByteArray) ++ ⟨b.toArray⟩)=⟨(a ++ b).toArray⟩:=by apply ByteArray.ext;simp
theorem ql (a:List UInt8):((⟨a.toArray⟩:ByteArray) ++ ⟨#[32]⟩)=⟨(a ++ [32]).toArray⟩:=by apply ByteArray.ext;simp
theorem Ud (b:List UInt8):((⟨#[124]⟩:ByteArray) ++ ⟨b.toArray⟩)=⟨([124] ++ b).toArray⟩:=by apply ByteArray.ext;simp
section
variable {w0 w w':World}{m:Int}{kb q:Nat}{C:Hg}{S:KS}{p:Int}{o:Ow}
theorem Below.Vl {V w w':World}{n:Nat}(h:Below n V w') (e:V.heap=w.heap) (e1:V.os=w.os) (e2:V.tape=w.tape) (e3:V.output=w.output):Below n w w':=
 ⟨h.os.trans e1,h.tape.trans e2,h.output.trans e3,by rw [←e];exact h.size,fun i hi=>by rw [←e];exact h.block i hi⟩
theorem Below.next {V w w' v0:World}(h:Below V.heap.size V w') (h0:Below v0.heap.size v0 w) (e:V.heap=w.heap) (e1:V.os=w.os) (e2:V.tape=w.tape) (e3:V.output=w.output):Below v0.heap.size v0 w':=
 h0.trans ((Below.Vl h e e1 e2 e3).mono (by rw [e];exact h0.size))
theorem KC.TA (h:KC w0 w m kb C S q) (o:Ow):aj (ax S o.j)≤8:=by
 obtain ⟨H,A,e,k,_⟩:=h
 exact tZ (k.1.sV o.j)
theorem KC.Hr (h:KC w0 w m kb C S q) (hp:p∈af S.P):1≤p∧p≤24∧(gJ S.P p=1∨gJ S.P p=2):=by
 obtain ⟨H,A,e,k,_⟩:=h
 obtain ⟨G,g,_⟩:=k.1
 obtain ⟨c,qj⟩:=g.qj
 obtain ⟨r,hr⟩:=Option.isSome_iff_exists.1 (qj.ok.jr.1 hp)
 have h1:=qj.key p r hr
 have h2:=qj.ok.st p r hr
 rw [gq hr]
 exact ⟨h1.1,h1.2,h2⟩
structure QI (S:KS) (no nt:Nat) (but:Int) (L:List Int):Prop where
 jr:af S.P=L
 row:∀p∈L,(AB S p).length≤132∧(AA S p).length≤2300
 head:(oD S no nt but).length≤70
theorem QI.len {no nt:Nat}{but:Int}{L:List Int}(h:QI S no nt but L):∀j,j≤L.length→(dP S no nt but j).length≤70+2300*j
 |0,_=>by
  unfold dP
  rw [List.take_zero,List.flatMap_nil,List.append_nil]
  exact h.head
 |j+1,hj=>by
  have sQ:j<(af S.P).length:=by rw [h.jr];omega
  rw [yA sQ,List.length_append]
  have h1:=h.len j (by omega)
  have h2:(wo S but (af S.P)[j]).length≤2300:=by
   unfold wo
   split
   ·simp
   ·exact (h.row _ (by rw [←h.jr];exact List.getElem_mem sQ)).2
  omega
theorem DU (i:Nat):Lib.itoa (i:Int)=Lib.decDigits i:=by unfold Lib.itoa;rw [if_neg (by omega)];rfl
theorem I8 {i:Nat}(hi:i<1000):(Lib.decDigits i).length≤21:=by
 have:=Lib.itoa_length_le (i:Int) (by omega) (by omega)
 rw [DU] at this;exact this
theorem DV (i:Nat) (hi:i<1000) (w:World) (h:Pow w):Calls Tryz.prog 105 #[.int .i64 (i:Int)] w fun e w'=>e=.returned (.string ⟨(Lib.decDigits i).toArray⟩)∧Below w.heap.size w w':=by
 refine (Any.strconv_Itoa Tryz.itoaML (i:Int) (by omega) (by omega) w h).mono ?_
 rintro e w' ⟨rfl,k,os,rfl⟩
 rw [DU]
 exact ⟨rfl,below_grow w k os⟩
theorem KC.all (h:KC w0 w m kb C S q) (hD:jF S.W) (hp:Pow w) {no nt:Nat}(hno:qa S.D.E no) (hnt:dm S.D.T nt) (but:Int) (hn:S.n<100) (ho1:no<1000) (ht1:nt<1000) :
 Calls Tryz.prog 32 #[wp kb,.int .i64 but] w fun e w'=>e=.returned (tx (allT S no nt but))∧Below w.heap.size w w':=by
 have hLe:=h.left
 have hOp:=h.opens hno
 have hNo:=fun W (b:Below w.heap.size w W)=>(h.below b).nodes hnt
 have Xy:=h.Hu
 have hI1:=fun W=>cu (S.n-used (jq S.Ms) S.n) (by omega) W
 have hI2:=DV no ho1 w hp
 have YD:=fun W (b:Below w.heap.size w W)=>DV nt ht1 W (hp.below b)
 have l1:=dH (i:=S.n-used (jq S.Ms) S.n) (by omega)
 have l2:=I8 ho1
 have l3:=I8 ht1
 have HA0:QI S no nt but (af S.P):=by
  refine ⟨rfl,fun p hp=>?_,?_⟩
  ·obtain ⟨z1,z2,z3⟩:=h.Hr hp
   exact Oa hD (by omega) (by omega) (fun o _=>h.TA o)
  ·unfold oD
   split
   ·simp
   ·simp only [List.length_append,List.length_cons,List.length_nil];omega
 have HA:Aside (QI S no nt but (af S.P)):=HA0
 have HH:Aside (oD S no nt but=if 0<but then [] else Lib.decDigits (S.n-used (jq S.Ms) S.n) ++ [32] ++ Lib.decDigits no ++ [32] ++ Lib.decDigits nt):=rfl
 have HZ:Aside (dP S no nt but 0=oD S no nt but):=by
  show dP S no nt but 0=oD S no nt but
  unfold dP;rw [List.take_zero,List.flatMap_nil,List.append_nil]
 generalize S.n-used (jq S.Ms) S.n=lf at *
 have hst:((⟨(Lib.decDigits lf).toArray⟩:ByteArray) ++ ⟨#[32]⟩ ++ ⟨(Lib.decDigits no).toArray⟩ ++ ⟨#[32]⟩ ++ ⟨(Lib.decDigits nt).toArray⟩:ByteArray)=⟨(Lib.decDigits lf ++ [32] ++ Lib.decDigits no ++ [32] ++ Lib.decDigits nt).toArray⟩:=by
  apply ByteArray.ext;simp
 generalize hTT:(Lib.decDigits lf ++ [32] ++ Lib.decDigits no ++ [32] ++ Lib.decDigits nt)=TT at *
 clear hTT
 generalize Lib.decDigits lf=T1 at *
 generalize Lib.decDigits no=T2 at *
 generalize Lib.decDigits nt=T3 at *
 have hc1:¬9223372036854775807<T1.length+1:=by omega
 have hc2:¬9223372036854775807<T1.length+1+T2.length:=by omega
 have hc3:¬9223372036854775807<T1.length+1+T2.length+1:=by omega
 have hc4:¬9223372036854775807<T1.length+1+T2.length+1+T3.length:=by omega
 clear HA0 hno hnt hn ho1 ht1
 go_enter Tryz.func32,Tryz.ntmps32
 go_upto_if 26 with (first
  |(go_at_call 39;refine hLe.mono ?_;rintro e w1 ⟨rfl,hw1⟩;subst w1)
  |(go_at_call 21;refine hOp.mono ?_;rintro e w1 ⟨rfl,hw1⟩;subst w1)
  |(go_at_call 102;refine (hNo _ b1).mono ?_;rintro e w2 ⟨rfl,hw2⟩;subst w2)
  |(go_at_call 105;refine (hI1 _).mono ?_;rintro e w1 ⟨rfl,hw1⟩;subst w1)
  |(go_at_call 105;refine hI2.mono ?_;rintro e w1 ⟨rfl,b1⟩)
  |(go_at_call 105;refine (YD _ b1).mono ?_;rintro e w3 ⟨rfl,b3⟩))
 clear hLe hOp hNo hI1 hI2 YD hc1 hc2 hc3 hc4 l1 l2 l3
 have b13:=b1.trans (b3.mono b1.size)
 clear b1 b3
 go_cut [5] (fun s5 wc=>s5=tx (oD S no nt but)∧Below w.heap.size w wc)
 case first=>
  by_cases hb:0<but
  ·have e1:oD S no nt but=[]:=by rw [HH.out,if_pos hb]
   have hd:decide (0<but)=true:=decide_eq_true hb
   go_wp2_with fail
   go_meet
   case rel=>exact ⟨by first|(rw [e1];done) | (rw [e1];rfl),b13⟩
  ·have e1:oD S no nt but=TT:=by rw [HH.out,if_neg hb]
   go_wp2_with fail
   go_meet
   case rel=>exact ⟨by first|(rw [e1];done) | (rw [e1];rfl),b13⟩
 case rest=>
  obtain ⟨rfl,hw⟩:=hcut
  have h:=h.below hw
  have hp:=hp.below hw
  have PV:=h.jr
  clear hst HH
  go_upto_region 5 with (go_at_call 34;refine PV.mono ?_;rintro e w6 ⟨bp,cp,rfl,hcp,k6,b6⟩)
  have HM:Aside (∀j (hj:j<(af S.P).length),(bp,j,Value.int .i64 (af S.P)[j])∈lS bp (af S.P) ++ C):=fun j hj=>List.mem_append_left _ (qO hj)
  have HPd:Aside (∀j (hj:j<(af S.P).length),1≤(af S.P)[j]∧(af S.P)[j]≤24∧(gJ S.P (af S.P)[j]=1∨gJ S.P (af S.P)[j]=2)):=fun j hj=>k6.Hr (List.getElem_mem hj)
  have HNx:Aside (∀j (hj:j<(af S.P).length),dP S no nt but (j+1)=dP S no nt but j ++ wo S but (af S.P)[j]):=fun j hj=>yA hj
  have HU8:Aside (∀o:Ow,aj (ax S o.j)≤8):=fun o=>h.TA o
  have aaD:Aside (dP S no nt but (af S.P).length=allT S no nt but):=rfl
  generalize Uq:lS bp (af S.P) ++ C=C9 at *
  clear Uq PV h
  generalize af S.P=L at *
  have hh:oD S no nt but=dP S no nt but 0:=HZ.out.symm
  rw [hh]
  clear hh HZ
  go_wp2_with fail
  go_loopg [5,7,8,9,10,11] L.length (fun g s5 s7 _ _ _ _ wx=>∃j:Nat,Aside (j+g=L.length)∧s7=.int .i64 (j:Int)∧s5=tx (dP S no nt but j)∧KC w0 wx m kb C9 S q∧Below wc.heap.size wc wx)
  case atStart=>exact ⟨0,(show 0+L.length=L.length by omega),rfl,rfl,k6,b6⟩
  case round=>
   clear k6 b6
   obtain ⟨j,HJ,rfl,rfl,k6,b6⟩:=hrel
   by_cases hjl:(j:Int)<(L.length:Int)
   ·have sQ:j<L.length:=by omega
    have y0:=k6.at (HM.out j sQ)
    have hmem:=HM.out j sQ
    have hpd:=HPd.out j sQ
    have hrow:=(HA.out.row L[j] (List.getElem_mem sQ))
    have hln:=HA.out.len j (by omega)
    have YM:Aside (dP S no nt but (j+1)=dP S no nt but j ++ wo S but L[j]):=HNx.out j sQ
    have hcj:(j:Int)<(cp:Int):=by omega
    generalize L[j]=p9 at *
    obtain ⟨pn,rfl⟩:∃pn:Nat,p9=(pn:Int):=⟨p9.toNat,by omega⟩
    by_cases hbt:(pn:Int)=but
    ·subst hbt
     have e1:dP S no nt (pn:Int) (j+1)=dP S no nt (pn:Int) j:=by
      rw [YM.out];unfold wo;rw [if_pos rfl,List.append_nil]
     generalize dP S no nt (pn:Int) j=Z0 at *
     go_wp2_with fail
     go_roundg (gk-1)
     case measure=>have:=HJ.out;omega
     case rel=>exact ⟨j+1,(show j+1+(gk-1)=L.length by have:=HJ.out;omega),by go_num,by rw [e1],k6,b6⟩
    ·have hbb:((pn:Int) == but)=false:=by simpa using hbt
     have vo:Aside (dP S no nt but (j+1)=dP S no nt but j ++ AB S (pn:Int) ++ hM S (pn:Int)):=by
      show dP S no nt but (j+1)=_
      rw [YM.out];unfold wo;rw [if_neg hbt];unfold AA;rw [List.append_assoc]
     have hwf:(Lit.int .i64 (pn:Int)).wf=true:=yH (by omega)
     obtain ⟨sn,hsn,hsl⟩:∃sn:Nat,gJ S.P (pn:Int)=(sn:Int)∧sn<100:=⟨(gJ S.P (pn:Int)).toNat,by omega,by omega⟩
     have hSt:=fun V (kV:KC w0 V m kb C9 S q)=>kV.state (pn:Int) hwf
     rw [hsn] at hSt
     have QC:=fun W=>cu pn (by omega) W
     have QB:=fun W=>cu sn hsl W
     have hTe:=fun c V hg=>mD c V hg
     have sK:AB S (pn:Int)=[124] ++ Lib.decDigits pn ++ [32] ++ Lib.decDigits sn ++ [32] ++ Lib.decDigits (hA S (pn:Int)) ++ [32] ++ Lib.decDigits (hB S (pn:Int)) ++ [32] ++ Lib.decDigits (hC S (pn:Int)) ++ [32] ++ Lib.decDigits (hE S (pn:Int)):=by
      unfold AB;rw [hsn,Int.toNat_natCast,Int.toNat_natCast]
     have Hw:=hrow.1
     have oJ:=hrow.2
     unfold AA at oJ
     rw [List.length_append] at oJ
     have hU8:=HU8.out
     have HHa:Aside (∀x:Nat,x<100→True):=fun _ _=>trivial
     cases ho:S.O (pn:Int) with
     |none=>
      have q1:hA S (pn:Int)=0:=by unfold hA;rw [ho]
      have q2:hB S (pn:Int)=0:=by unfold hB;rw [ho]
      have q3:hC S (pn:Int)=0:=by unfold hC;rw [ho]
      have q4:hE S (pn:Int)=7:=by unfold hE;rw [ho];rfl
      have q5:hM S (pn:Int)=[]:=by unfold hM;rw [ho]
      have q1:hA S (pn:Int)=0:=by unfold hA;rw [ho]
      have q2:hB S (pn:Int)=0:=by unfold hB;rw [ho]
      have q3:hC S (pn:Int)=0:=by unfold hC;rw [ho]
      have q4:hE S (pn:Int)=7:=by unfold hE;rw [ho];rfl
      have q5:hM S (pn:Int)=[]:=by unfold hM;rw [ho]
      have hH:=k6.FJ ho hwf
      rw [q1,q2,q3,q4] at sK
      rw [q5] at oJ vo
      clear q1 q2 q3 q4 q5 hU8 YM hrow ho
      have QC:∀W:World,Calls Tryz.prog 105 #[.int .i64 (pn:Int)] W fun e w'=>e=.returned (.string ⟨(Lib.decDigits pn).toArray⟩)∧w'=W:=fun W=>cu pn (by omega) W
      have lP1:=dH (i:=pn) (by omega)
      have QB:∀W:World,Calls Tryz.prog 105 #[.int .i64 (sn:Int)] W fun e w'=>e=.returned (.string ⟨(Lib.decDigits sn).toArray⟩)∧w'=W:=fun W=>cu sn (by omega) W
      have lS1:=dH (i:=sn) (by omega)
      have UJ:∀W:World,Calls Tryz.prog 105 #[.int .i64 (0:Int)] W fun e w'=>e=.returned (.string ⟨(Lib.decDigits 0).toArray⟩)∧w'=W:=fun W=>cu 0 (by omega) W
      have lA1:=dH (i:=0) (by omega)
      have UI:∀W:World,Calls Tryz.prog 105 #[.int .i64 (7:Int)] W fun e w'=>e=.returned (.string ⟨(Lib.decDigits 7).toArray⟩)∧w'=W:=fun W=>cu 7 (by omega) W
      have lE1:=dH (i:=7) (by omega)
      have Zj:∀V:World,V.cell? ⟨0,0,none⟩=some fJ→Calls Tryz.prog 17 #[eX 7] V fun e w'=>e=.returned (.int .i64 7)∧Below V.heap.size V w':=fun V hg=>mD 7 V hg
      generalize Lib.decDigits pn=P1 at *
      generalize Lib.decDigits sn=S1 at *
      generalize Lib.decDigits 0=A1 at *
      generalize Lib.decDigits 7=E1 at *
      obtain ⟨U1,Qk⟩:∃U:List UInt8,[124] ++ P1=U:=⟨_,rfl⟩
      have f1:=Ud P1
      rw [Qk] at f1
      rw [Qk] at sK
      have g1:U1.length=1+P1.length:=by rw [←Qk,List.length_append];rfl
      have z1:¬9223372036854775807<1+P1.length:=by omega
      obtain ⟨U2,CE⟩:∃U:List UInt8,U1 ++ [32]=U:=⟨_,rfl⟩
      have f2:=ql U1
      rw [CE] at f2
      rw [CE] at sK
      have g2:U2.length=U1.length+1:=by rw [←CE,List.length_append];rfl
      have z2:¬9223372036854775807<U1.length+1:=by omega
      obtain ⟨U3,Qj⟩:∃U:List UInt8,U2 ++ S1=U:=⟨_,rfl⟩
      have f3:=mg U2 S1
      rw [Qj] at f3
      rw [Qj] at sK
      have g3:U3.length=U2.length+S1.length:=by rw [←Qj,List.length_append]
      have z3:¬9223372036854775807<U2.length+S1.length:=by omega
      obtain ⟨U4,Qi⟩:∃U:List UInt8,U3 ++ [32]=U:=⟨_,rfl⟩
      have f4:=ql U3
      rw [Qi] at f4
      rw [Qi] at sK
      have g4:U4.length=U3.length+1:=by rw [←Qi,List.length_append];rfl
      have z4:¬9223372036854775807<U3.length+1:=by omega
      obtain ⟨U5,Qh⟩:∃U:List UInt8,U4 ++ A1=U:=⟨_,rfl⟩
      have f5:=mg U4 A1
      rw [Qh] at f5
      rw [Qh] at sK
      have g5:U5.length=U4.length+A1.length:=by rw [←Qh,List.length_append]
      have z5:¬9223372036854775807<U4.length+A1.length:=by omega
      obtain ⟨U6,Qg⟩:∃U:List UInt8,U5 ++ [32]=U:=⟨_,rfl⟩
      have f6:=ql U5
      rw [Qg] at f6
      rw [Qg] at sK
      have g6:U6.length=U5.length+1:=by rw [←Qg,List.length_append];rfl
      have z6:¬9223372036854775807<U5.length+1:=by omega
      obtain ⟨U7,Qf⟩:∃U:List UInt8,U6 ++ A1=U:=⟨_,rfl⟩
      have f7:=mg U6 A1
      rw [Qf] at f7
      rw [Qf] at sK
      have g7:U7.length=U6.length+A1.length:=by rw [←Qf,List.length_append]
      have z7:¬9223372036854775807<U6.length+A1.length:=by omega
      obtain ⟨U8,hU8⟩:∃U:List UInt8,U7 ++ [32]=U:=⟨_,rfl⟩
      have f8:=ql U7
      rw [hU8] at f8
      rw [hU8] at sK
      have g8:U8.length=U7.length+1:=by rw [←hU8,List.length_append];rfl
      have z8:¬9223372036854775807<U7.length+1:=by omega
      obtain ⟨U9,PU⟩:∃U:List UInt8,U8 ++ A1=U:=⟨_,rfl⟩
      have f9:=mg U8 A1
      rw [PU] at f9
      rw [PU] at sK
      have g9:U9.length=U8.length+A1.length:=by rw [←PU,List.length_append]
      have z9:¬9223372036854775807<U8.length+A1.length:=by omega
      obtain ⟨Mw,AR⟩:∃U:List UInt8,U9 ++ [32]=U:=⟨_,rfl⟩
      have f10:=ql U9
      rw [AR] at f10
      rw [AR] at sK
      have g10:Mw.length=U9.length+1:=by rw [←AR,List.length_append];rfl
      have z10:¬9223372036854775807<U9.length+1:=by omega
      obtain ⟨Mv,AQ⟩:∃U:List UInt8,Mw ++ E1=U:=⟨_,rfl⟩
      have f11:=mg Mw E1
      rw [AQ] at f11
      rw [AQ] at sK
      have g11:Mv.length=Mw.length+E1.length:=by rw [←AQ,List.length_append]
      have z11:¬9223372036854775807<Mw.length+E1.length:=by omega
      rw [sK] at Hw oJ vo
      clear sK
      generalize Zh:dP S no nt but j=Z0 at *
      obtain ⟨Z1,hZ1⟩:∃Z:List UInt8,Z0 ++ Mv=Z:=⟨_,rfl⟩
      have fz:=mg Z0 Mv
      rw [hZ1] at fz
      have gz:Z1.length=Z0.length+Mv.length:=by rw [←hZ1,List.length_append]
      have zz:¬9223372036854775807<Z0.length+Mv.length:=by omega
      have ZB:Aside (dP S no nt but (j+1)=Z1 ++ []):=by
       show dP S no nt but (j+1)=_
       rw [vo.out,←hZ1]
      have hgm:Z1.length+2300≤1000000:=by omega
      clear vo Zh
      clear Qk g1
      clear CE g2
      clear Qj g3
      clear Qi g4
      clear Qh g5
      clear Qg g6
      clear Qf g7
      clear hU8 g8
      clear PU g9
      clear AR g10
      clear AQ g11
      clear gz hZ1 Hw oJ
      go_upto_region 10 with (go_at_call 38;refine hH.mono ?_;rintro e w7 ⟨rfl,k7,b7⟩)
      have y7:=k7.at hmem
      have B7:=b6.trans (b7.mono b6.size)
      clear y0 hH
      go_region_held3 (fun w'=>w'.cell? ⟨bp,j,none⟩=some (.int .i64 (pn:Int))) (first|exact y8|exact y7) (first
       |(go_at_call 105;refine (QC _).mono ?_;rintro e wi ⟨rfl,G9⟩;subst wi)
       |(go_at_call 105;refine (QB _).mono ?_;rintro e wi ⟨rfl,G9⟩;subst wi)
       |(go_at_call 105;refine (UJ _).mono ?_;rintro e wi ⟨rfl,G9⟩;subst wi)
       |(go_at_call 105;refine (UI _).mono ?_;rintro e wi ⟨rfl,G9⟩;subst wi)
       |(go_at_call 35;refine (hSt _ (by first|exact k7|exact k7.below ⟨rfl,rfl,rfl,Nat.le_refl _,fun _ _=>rfl⟩)).mono ?_;rintro e w8 ⟨rfl,k8,b8⟩;have y8:=k8.at hmem;have B8:=Below.next (w:=w7) b8 B7 rfl rfl rfl rfl)
       |(go_at_call 17;refine (Zj _ k8.er).mono ?_;rintro e w9 ⟨rfl,b9⟩;have k9:=k8.below (w':=w9) (Below.next (w:=w8) b9 (Below.refl _ w8) rfl rfl rfl rfl);have y8:=k9.at hmem;have B9:=Below.next (w:=w8) b9 B8 rfl rfl rfl rfl))
      all_goals
       go_wp2_with fail
       go_roundg (gk-1)
       case measure=>have:=HJ.out;omega
       case rel=>exact ⟨j+1,(show j+1+(gk-1)=L.length by have:=HJ.out;omega),by go_num,by rw [ZB.out,List.append_nil],k9,B9⟩
     |some o=>
      have q1:hA S (pn:Int)=bN (aK S o.j):=by unfold hA;rw [ho]
      have q2:hB S (pn:Int)=iq (aK S o.j):=by unfold hB;rw [ho]
      have q3:hC S (pn:Int)=aj (ax S o.j):=by unfold hC;rw [ho]
      have q4:hE S (pn:Int)=0:=by unfold hE;rw [ho];rfl
      have q5:hM S (pn:Int)=memT S o:=by unfold hM;rw [ho];rfl
      have hH:=k6.jm ho
      have hMm:=fun V (kV:KC w0 V m kb C9 S q) (pV:Pow V)=>kV.memory ho hD pV
      have x1:=nG (aK S o.j)
      have x2:=Iw (aK S o.j)
      have x3:=hU8 o
      rw [q1,q2,q3,q4] at sK
      rw [q5] at oJ vo
      clear q1 q2 q3 q4 q5 hU8 YM hrow ho
      generalize memT S o=MM at *
      generalize bN (aK S o.j)=na at *
      generalize iq (aK S o.j)=nb at *
      generalize aj (ax S o.j)=nc at *
      have QC:∀W:World,Calls Tryz.prog 105 #[.int .i64 (pn:Int)] W fun e w'=>e=.returned (.string ⟨(Lib.decDigits pn).toArray⟩)∧w'=W:=fun W=>cu pn (by omega) W
      have lP1:=dH (i:=pn) (by omega)
      have QB:∀W:World,Calls Tryz.prog 105 #[.int .i64 (sn:Int)] W fun e w'=>e=.returned (.string ⟨(Lib.decDigits sn).toArray⟩)∧w'=W:=fun W=>cu sn (by omega) W
      have lS1:=dH (i:=sn) (by omega)
      have UJ:∀W:World,Calls Tryz.prog 105 #[.int .i64 (na:Int)] W fun e w'=>e=.returned (.string ⟨(Lib.decDigits na).toArray⟩)∧w'=W:=fun W=>cu na (by omega) W
      have lA1:=dH (i:=na) (by omega)
      have aan:∀W:World,Calls Tryz.prog 105 #[.int .i64 (nb:Int)] W fun e w'=>e=.returned (.string ⟨(Lib.decDigits nb).toArray⟩)∧w'=W:=fun W=>cu nb (by omega) W
      have lB1:=dH (i:=nb) (by omega)
      have aam:∀W:World,Calls Tryz.prog 105 #[.int .i64 (nc:Int)] W fun e w'=>e=.returned (.string ⟨(Lib.decDigits nc).toArray⟩)∧w'=W:=fun W=>cu nc (by omega) W
      have lC1:=dH (i:=nc) (by omega)
      have UI:∀W:World,Calls Tryz.prog 105 #[.int .i64 (0:Int)] W fun e w'=>e=.returned (.string ⟨(Lib.decDigits 0).toArray⟩)∧w'=W:=fun W=>cu 0 (by omega) W
      have lE1:=dH (i:=0) (by omega)
      have Zj:∀V:World,V.cell? ⟨0,0,none⟩=some fJ→Calls Tryz.prog 17 #[Value.nilIface] V fun e w'=>e=.returned (.int .i64 0)∧Below V.heap.size V w':=fun V hg=>mD 0 V hg
      generalize Lib.decDigits pn=P1 at *
      generalize Lib.decDigits sn=S1 at *
      generalize Lib.decDigits na=A1 at *
      generalize Lib.decDigits nb=B1 at *
      generalize Lib.decDigits nc=C1 at *
      generalize Lib.decDigits 0=E1 at *
      obtain ⟨U1,Qk⟩:∃U:List UInt8,[124] ++ P1=U:=⟨_,rfl⟩
      have f1:=Ud P1
      rw [Qk] at f1
      rw [Qk] at sK
      have g1:U1.length=1+P1.length:=by rw [←Qk,List.length_append];rfl
      have z1:¬9223372036854775807<1+P1.length:=by omega
      obtain ⟨U2,CE⟩:∃U:List UInt8,U1 ++ [32]=U:=⟨_,rfl⟩
      have f2:=ql U1
      rw [CE] at f2
      rw [CE] at sK
      have g2:U2.length=U1.length+1:=by rw [←CE,List.length_append];rfl
      have z2:¬9223372036854775807<U1.length+1:=by omega
      obtain ⟨U3,Qj⟩:∃U:List UInt8,U2 ++ S1=U:=⟨_,rfl⟩
      have f3:=mg U2 S1
      rw [Qj] at f3
      rw [Qj] at sK
      have g3:U3.length=U2.length+S1.length:=by rw [←Qj,List.length_append]
      have z3:¬9223372036854775807<U2.length+S1.length:=by omega
      obtain ⟨U4,Qi⟩:∃U:List UInt8,U3 ++ [32]=U:=⟨_,rfl⟩
      have f4:=ql U3
      rw [Qi] at f4
      rw [Qi] at sK
      have g4:U4.length=U3.length+1:=by rw [←Qi,List.length_append];rfl
      have z4:¬9223372036854775807<U3.length+1:=by omega
      obtain ⟨U5,Qh⟩:∃U:List UInt8,U4 ++ A1=U:=⟨_,rfl⟩
      have f5:=mg U4 A1
      rw [Qh] at f5
      rw [Qh] at sK
      have g5:U5.length=U4.length+A1.length:=by rw [←Qh,List.length_append]
      have z5:¬9223372036854775807<U4.length+A1.length:=by omega
      obtain ⟨U6,Qg⟩:∃U:List UInt8,U5 ++ [32]=U:=⟨_,rfl⟩
      have f6:=ql U5
      rw [Qg] at f6
      rw [Qg] at sK
      have g6:U6.length=U5.length+1:=by rw [←Qg,List.length_append];rfl
      have z6:¬9223372036854775807<U5.length+1:=by omega
      obtain ⟨U7,Qf⟩:∃U:List UInt8,U6 ++ B1=U:=⟨_,rfl⟩
      have f7:=mg U6 B1
      rw [Qf] at f7
      rw [Qf] at sK
      have g7:U7.length=U6.length+B1.length:=by rw [←Qf,List.length_append]
      have z7:¬9223372036854775807<U6.length+B1.length:=by omega
      obtain ⟨U8,hU8⟩:∃U:List UInt8,U7 ++ [32]=U:=⟨_,rfl⟩
      have f8:=ql U7
      rw [hU8] at f8
      rw [hU8] at sK
      have g8:U8.length=U7.length+1:=by rw [←hU8,List.length_append];rfl
      have z8:¬9223372036854775807<U7.length+1:=by omega
      obtain ⟨U9,PU⟩:∃U:List UInt8,U8 ++ C1=U:=⟨_,rfl⟩
      have f9:=mg U8 C1
      rw [PU] at f9
      rw [PU] at sK
      have g9:U9.length=U8.length+C1.length:=by rw [←PU,List.length_append]
      have z9:¬9223372036854775807<U8.length+C1.length:=by omega
      obtain ⟨Mw,AR⟩:∃U:List UInt8,U9 ++ [32]=U:=⟨_,rfl⟩
      have f10:=ql U9
      rw [AR] at f10
      rw [AR] at sK
      have g10:Mw.length=U9.length+1:=by rw [←AR,List.length_append];rfl
      have z10:¬9223372036854775807<U9.length+1:=by omega
      obtain ⟨Mv,AQ⟩:∃U:List UInt8,Mw ++ E1=U:=⟨_,rfl⟩
      have f11:=mg Mw E1
      rw [AQ] at f11
      rw [AQ] at sK
      have g11:Mv.length=Mw.length+E1.length:=by rw [←AQ,List.length_append]
      have z11:¬9223372036854775807<Mw.length+E1.length:=by omega
      rw [sK] at Hw oJ vo
      clear sK
      generalize Zh:dP S no nt but j=Z0 at *
      obtain ⟨Z1,hZ1⟩:∃Z:List UInt8,Z0 ++ Mv=Z:=⟨_,rfl⟩
      have fz:=mg Z0 Mv
      rw [hZ1] at fz
      have gz:Z1.length=Z0.length+Mv.length:=by rw [←hZ1,List.length_append]
      have zz:¬9223372036854775807<Z0.length+Mv.length:=by omega
      have ZB:Aside (dP S no nt but (j+1)=Z1 ++ MM):=by
       show dP S no nt but (j+1)=_
       rw [vo.out,←hZ1]
      have hgm:Z1.length+2300≤1000000:=by omega
      clear vo Zh
      clear Qk g1
      clear CE g2
      clear Qj g3
      clear Qi g4
      clear Qh g5
      clear Qg g6
      clear Qf g7
      clear hU8 g8
      clear PU g9
      clear AR g10
      clear AQ g11
      clear gz hZ1 Hw
      go_upto_region 10 with (go_at_call 38;refine hH.mono ?_;rintro e w7 ⟨rfl,k7,b7⟩)
      have y7:=k7.at hmem
      have B7:=b6.trans (b7.mono b6.size)
      clear y0 hH
      go_region_held3 (fun w'=>w'.cell? ⟨bp,j,none⟩=some (.int .i64 (pn:Int))) (first|exact y8|exact y7) (first
       |(go_at_call 105;refine (QC _).mono ?_;rintro e wi ⟨rfl,G9⟩;subst wi)
       |(go_at_call 105;refine (QB _).mono ?_;rintro e wi ⟨rfl,G9⟩;subst wi)
       |(go_at_call 105;refine (UJ _).mono ?_;rintro e wi ⟨rfl,G9⟩;subst wi)
       |(go_at_call 105;refine (aan _).mono ?_;rintro e wi ⟨rfl,G9⟩;subst wi)
       |(go_at_call 105;refine (aam _).mono ?_;rintro e wi ⟨rfl,G9⟩;subst wi)
       |(go_at_call 105;refine (UI _).mono ?_;rintro e wi ⟨rfl,G9⟩;subst wi)
       |(go_at_call 35;refine (hSt _ (by first|exact k7|exact k7.below ⟨rfl,rfl,rfl,Nat.le_refl _,fun _ _=>rfl⟩)).mono ?_;rintro e w8 ⟨rfl,k8,b8⟩;have y8:=k8.at hmem;have B8:=Below.next (w:=w7) b8 B7 rfl rfl rfl rfl)
       |(go_at_call 17;refine (Zj _ k8.er).mono ?_;rintro e w9 ⟨rfl,b9⟩;have k9:=k8.below (w':=w9) (Below.next (w:=w8) b9 (Below.refl _ w8) rfl rfl rfl rfl);have y8:=k9.at hmem;have B9:=Below.next (w:=w8) b9 B8 rfl rfl rfl rfl))
      all_goals
       have hM9:=hMm _ k9 (hp.below B9)
       have fm:=mg Z1 MM
       have zm:¬9223372036854775807<Z1.length+MM.length:=by omega
       clear hMm oJ hgm
       go_wp2_with (go_at_call 106;refine hM9.mono ?_;rintro e wm ⟨rfl,bm⟩)
       go_roundg (gk-1)
       case measure=>have:=HJ.out;omega
       case rel=>exact ⟨j+1,(show j+1+(gk-1)=L.length by have:=HJ.out;omega),by go_num,by rw [ZB.out],k9.below bm,Below.next (w:=w9) bm B9 rfl rfl rfl rfl⟩
   ·have hjE:j=L.length:=by have:=HJ.out;omega
    subst hjE
    rw [aaD.out]
    go_wp2_with fail
    go_ret
    exact ⟨rfl,hw.trans (b6.mono hw.size)⟩
end
theorem Ib {n:Int}(h:(Lit.int .i64 n).wf=true):-9223372036854775808≤n∧n≤9223372036854775807:=by
 have b:IntKind.max .i64=9223372036854775807:=rfl
 have b2:IntKind.min .i64=-9223372036854775808:=rfl
 simp only [Lit.wf,b,b2,Bool.and_eq_true,decide_eq_true_eq] at h;omega
section
variable {w0 w w':World}{m:Int}{kb q:Nat}{C:Hg}{S S':KS}{p a b c:Int}{s t:List UInt8}
theorem KC.nums (h:KC w0 w m kb C S q):∃no nt,qa S.D.E no∧dm S.D.T nt∧no<1000∧nt<1000:=by
 obtain ⟨H,A,e,k,_⟩:=h
 obtain ⟨no,hno⟩:=k.1.vY
 obtain ⟨nt,hnt⟩:=k.1.MI
 refine ⟨no,nt,hno,hnt,?_,?_⟩
 ·have h1:=hno.few k.1.inv.core.iV.n0 k.1.inv.core.iV.e
  have h2:=k.1.inv.core.iV.n1
  omega
 ·obtain ⟨ks,h1,rfl,h3⟩:=hnt
  have:=nH (b:=(List.range 64).map (fun i:Nat=>(i:Int))) h1 (fun x hx=>by
   have h4:=k.1.inv.core.lv.toTrOk.key x ((h3 x).1 hx)
   exact List.mem_map.2 ⟨x.toNat,List.mem_range.2 (by omega),by omega⟩)
  simp only [List.length_map,List.length_range] at this
  omega
end
def QE (x:Nat) (A:Array Value):Hg:=(List.range A.size).map fun i=>(x,i,A.getD i .nilIface)
theorem kI {x i:Nat}{A:Array Value}{v:Value}(h:A[i]? = some v):(x,i,v)∈QE x A:=by
 obtain ⟨hi,e⟩:=Array.getElem?_eq_some_iff.1 h
 unfold QE
 rw [List.mem_map]
 refine ⟨i,List.mem_range.2 hi,?_⟩
 rw [Array.getD_eq_getD_getElem?,h];rfl
theorem KC.V9 {w0 w w':World}{m:Int}{kb q:Nat}{C:Hg}{S:KS}(h:KC w0 w m kb C S q) (b:Below w.heap.size w w') {x:Nat}(hx:w.heap.size≤x) {A:Array Value}{ty:TypeId}{fr:Nat×Nat}(hr:w'.heap[x]? = some (.cells A ty fr)):KC w0 w' m kb (QE x A ++ C) S q:=by
 refine h.add b fun y hy=>?_
 unfold QE at hy
 rw [List.mem_map] at hy
 obtain ⟨i,hi,rfl⟩:=hy
 have hi:=List.mem_range.1 hi
 refine ⟨?_,hx⟩
 show w'.cell? ⟨x,i,none⟩=_
 rw [cell_of_row w' x i _ _ _ hr,Array.getD_eq_getD_getElem?,Array.getElem?_eq_getElem hi]
 rfl
end Go.Proofs.YtcfhanoekniaaaaGreatDoor

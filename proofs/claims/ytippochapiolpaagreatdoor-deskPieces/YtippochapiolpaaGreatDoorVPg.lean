/- A loop over a map that is keyed by int: which keys are still to come. -/
import Derived.Test.YtippochapiolpaaGreatDoorSKeys
import Derived.Maps.RangeWalk
import Derived.Test.YtippochapiolpaaGreatDoorVNew
import Derived.Test.YtippochapiolpaaGreatDoorShelf8
set_option maxHeartbeats 8000000
set_option maxRecDepth 100000
namespace Go.Proofs.YtippochapiolpaaGreatDoor
open Go.RowKit Go.Maps
def vS (w:World) (g r s:Nat) (M:Int→Option Value) (todo:Int→Bool) (cnt:Nat):Prop:=
 ∃(D:DataW Value) (left:Lit→Bool),w.ranges Tryz.prog 3 self g r s D left cnt∧Maps.size D=s∧(∀a,Maps.has D (.int .i64 a)=(M a).isSome)∧(∀a z,D.atKey (.int .i64 a) (.held z)=.held ((M a).getD z))∧∀a,left (.int .i64 a)=todo a
section
variable {w w':World}{g r s:Nat}{M:Int→Option Value}{todo:Int→Bool}{cnt:Nat}
theorem vS.map (h:vS w g r s M todo cnt):aK w g s M:=by
 obtain ⟨D,left,hr,h1,h2,h3,_⟩:=h
 exact ⟨D,hr.owns,h1,h2,h3⟩
theorem vS.keep (h:vS w g r s M todo cnt) (hg:w'.heap[g]? = w.heap[g]?) (hr:w'.heap[r]? = w.heap[r]?):vS w' g r s M todo cnt:=by
 obtain ⟨D,left,⟨es,clock,since,seen,c0,hb,F,hs,hD,hi,rest⟩,h1⟩:=h
 exact ⟨D,left,⟨es,clock,since,seen,c0,hg.trans hb,F,hs,hD,hr.trans hi,rest⟩,h1⟩
theorem vS.rlt (h:vS w g r s M todo cnt):r<w.heap.size:=by obtain ⟨D,left,hr,_⟩:=h;exact hr.lt
end
section
variable {ops:Array Oper}{rest:List Oper}{o:Oper}{a:Act}{w:World}{Q:Exit→Act→World→Prop}
theorem Bq (hgd:o.guard=none) (m:Operand) (t:TypeId) (hop:o.op=Op.range t m) (e:TypeId) (ht:Tryz.prog.underlying t=some (.map 3 e)) (g n:Nat) (M:Int→Option Value) (hm:a.eval m=.map (some g)) (hown:aK w g n M)
 (h:∀w',vS w' g w.heap.size n M (fun x=>(M x).isSome) n→w.grownBy w' none→w'.heap.size=w.heap.size+1→wpList Tryz.prog ops Q rest (a.put o.dst (.pointer (some ⟨w.heap.size,0,none⟩))) w'):wpList Tryz.prog ops Q (o :: rest) a w:=by
 obtain ⟨D,hD,h1,h2,h3⟩:=hown
 refine wpList_range_own w hgd m t hop 3 e gZ ht self g n D hm hD (fun w' hr hg hs=>h w' ⟨D,_,by rw [h1] at hr;exact hr,h1,h2,h3,fun x=>h2 x⟩ hg hs)
theorem EO (hgd:o.guard=none) (it:Operand) (hop:o.op=Op.next it false) (g r n:Nat) (M:Int→Option Value) (todo:Int→Bool) (cnt:Nat) (hit:a.eval it=.pointer (some ⟨r,0,none⟩)) (hr:vS w g r n M todo cnt)
 (hDone:(∀x,todo x=false)→wpList Tryz.prog ops Q rest (a.put o.dst (.tuple #[.bool false])) w)
 (hMore:∀(x:Int) (v:Value) (w':World) (cnt':Nat),(Lit.int .i64 x).wf=true→todo x=true→M x=some v→vS w' g r n M (fun z=>todo z && !decide (z=x)) cnt'→cnt'<cnt→w.grownBy w' (some r)→w'.heap.size=w.heap.size→
   (Instr.entry (.pointer (some ⟨r,0,none⟩))).run Tryz.prog w'=.ok (.tuple #[.int .i64 x,v]) w'→wpList Tryz.prog ops Q rest (a.put o.dst (.tuple #[.bool true,.int .i64 x,v])) w'):wpList Tryz.prog ops Q (o :: rest) a w:=by
 obtain ⟨D,left,hrg,h1,h2,h3,h4⟩:=hr
 refine wpList_next_ranges w hgd it hop 3 gZ self (Value.int .i64) (fun v:Value=>v) (fun key kl hkey=>by obtain ⟨x,rfl,_⟩:=Maps.keyOf_int_inv Tryz.underlying3 hkey;exact ⟨x,rfl⟩) (fun v y _=>⟨v,rfl⟩) g r n D left cnt hit hrg (fun _ hl=>hDone (fun x=>by rw [←h4];exact hl _)) ?_
 intro x v kl y w' cnt' hkey hlk hv hat afA hlt hg hs hen
 obtain ⟨x',ex,rfl,hwx⟩:=Maps.keyOf_int_inv Tryz.underlying3 hkey
 cases ex
 have hy:y=(.held v,[]):=by simp only [self,Option.some.injEq] at hv;exact hv.symm
 have hM:M x=some v:=by
  have e1:=(h3 x (.bool true)).symm.trans (hat (.held (.bool true)))
  have e2:=(h3 x (.bool false)).symm.trans (hat (.held (.bool false)))
  rw [hy] at e1 e2
  simp only [DataW.held.injEq] at e1 e2
  cases e:M x with
  |none=>rw [e] at e1 e2;simp only [Option.getD_none] at e1 e2;rw [←e1] at e2;cases e2
  |some u=>rw [e] at e1;simp only [Option.getD_some] at e1;rw [e1]
 refine hMore x v w' cnt' hwx (by rw [←h4];exact hlk) hM ⟨D,_,afA,h1,h2,h3,fun z=>?_⟩ hlt hg hs hen
 have hsk:(Lit.int .i64 z).sameKey (.int .i64 x)=decide (z=x):=by
  by_cases e:z=x<;>simp [Lit.sameKey,e]
 show (left (.int .i64 z) && !(Lit.int .i64 z).sameKey (.int .i64 x))=_
 rw [h4 z,hsk]
end
end Go.Proofs.YtippochapiolpaaGreatDoor
namespace Go.Proofs.YtippochapiolpaaGreatDoor
open Go.RowKit Go.Shelf Go.Lib Go.Sort Go.Maps
def fE (P:PM) (todo:Int→Bool):PM:=fun a=>if todo a then none else P a
theorem IA (P:PM):fE P (fun x=>(vO P x).isSome)=fun _=>none:=by
 funext x;unfold fE;simp only [mr];cases P x<;>rfl
theorem Qd {P:PM}{todo:Int→Bool}(h:∀x,todo x=false):fE P todo=P:=by
 funext x;unfold fE;rw [h x];rfl
theorem KU {P:PM}{todo:Int→Bool}{x:Int}{p:Int×Int}(hP:P x=some p):fE P (fun z=>todo z && !decide (z=x))=dE (fE P todo) x p:=by
 funext z;unfold fE dE
 by_cases e:z=x
 ·subst e;simp [hP]
 ·simp [e]
theorem Mc {P:PM}{todo:Int→Bool}{x:Int}{p:Int×Int}(hP:P x=some p) (ht:todo x=true) (h0:0≤x) (h1:x<64) {f:Int}(hf:0≤f):sh (fE P (fun z=>todo z && !decide (z=x))) f=sh (fE P todo) f+if p.2=f then 1 else 0:=by
 rw [KU hP]
 have:=yT (P:=fE P todo) h0 h1 p f
 have e:aR (fE P todo) x=-1:=oG (by unfold fE;rw [ht];rfl)
 rw [if_neg (by rw [e];omega)] at this;omega
theorem JZ {P:PM}{todo:Int→Bool}{f:Int}(hf:0≤f):sh (fE P todo) f≤sh P f:=by
 refine N9 (fun i=>?_)
 by_cases e:todo (i:Int)=true
 ·have:aR (fE P todo) i=-1:=oG (by unfold fE;rw [e];rfl)
  rw [if_neg (by rw [this];omega)];exact Nat.zero_le _
 ·have:aR (fE P todo) i=aR P i:=by unfold aR fE;rw [if_neg e]
  rw [this];exact Nat.le_refl _
theorem aK.copied {w:World}{g n:Nat}{M:Int→Option Value}(m:aK w g n M):∃es clock,w.heap[g]? = some (.map es clock)∧∀(w':World) (g':Nat),w'.heap[g']? = some (.map es clock)→aK w' g' n M:=by
 obtain ⟨D,⟨es,clock,hb,F,hs,hD⟩,hM⟩:=m
 exact ⟨es,clock,hb,fun w' g' h=>⟨D,⟨es,clock,h,F,hs,hD⟩,hM⟩⟩
section
variable {E:St}{w w':World}{c gc:Nat}{D:Nat→Nat→Int}{A:Nat→Prop}{P:PM}{o:Int→Nat}
def Rx (E:St) (w:World) (c gc c':Nat) (A:Nat→Prop) (w':World) (D:Nat→Nat→Int) (P:PM) (o:Int→Nat):Prop:=
 ∃gc' A',VS E w' c gc D A' P (fun f=>o f+sh P f)∧VS E w' c' gc' D A' P (fun f=>o f+sh P f)∧Fr (bO E A) w w'∧(∀i,i<w.heap.size→A' i→A i)∧w.heap.size≤c'∧w.heap.size≤gc'
theorem VS.uP (h:VS E w c gc D A P o) (ho:∀f,0≤f→o f≤500):Calls Tryz.prog 229 #[vp c] w fun e w'=>∃c',e=.returned (vp c')∧Rx E w c gc c' A w' D P o:=by
 have c0:=h.sp.c0
 have c1:=h.sp.c1
 have hmp:=h.sp.map
 go_enter Tryz.func229,Tryz.ntmps229
 go_wp2_with (at_range;refine Bq rfl _ 163 rfl 264 Tryz.underlying163 gc _ _ rfl hmp ?_;intro w0 hr0 hg0 hs0)
 go_frame
 have f0:Fr (bO E A) w w0:=⟨hg0.os,hg0.tape,hg0.output,hg0.size,fun i hi _=>hg0.block i hi (by simp)⟩
 have hrn:¬bO E A w.heap.size:=fun ho=>by have:=h.st.Dm ho;omega
 have v0:Vs E w0 D (gT fun f=>sh P f+o f+sh (fE P (fun x=>(vO P x).isSome)) f) A:=by
  rw [gI (t':=fun f=>sh P f+o f) (fun x hx=>by simp only [IA];rw [qD hx];omega)]
  exact h.st.keep (fun i hi=>hg0.block i (h.st.Dm hi) (by simp)) (hg0.block _ h.st.blt (by simp)) (hg0.block _ h.st.mlt (by simp))
 go_loopg [12] (bX P) (fun mm s12 wr=>∃todo A',vS wr gc w.heap.size (bX P) (vO P) todo mm∧Vs E wr D (gT fun f=>sh P f+o f+sh (fE P todo) f) A'∧Fr (bO E A) w wr∧(∀i,i<w.heap.size→A' i→A i)∧¬bO E A' w.heap.size)
 case atStart=>exact ⟨_,A,hr0,v0,f0,fun _ _ h=>h,hrn⟩
 case round=>
  obtain ⟨todo,A',hrg,v1,f1,s1,hrn⟩:=hrel
  go_wp2_with (at_next;refine EO rfl _ rfl gc w.heap.size _ _ _ _ rfl hrg ?_ ?_)
  ·intro hl
   have hlc:=h.sp.lt
   have hbc:=f1.block c hlc h.mR
   have c0':wr.cell? ⟨c,0,none⟩=some (vp E.b):=by rw [World.cell?_of_block (w:=w) (a:=⟨c,0,none⟩) hbc];exact c0
   have c1':wr.cell? ⟨c,1,none⟩=some (.map (some gc)):=by rw [World.cell?_of_block (w:=w) (a:=⟨c,1,none⟩) hbc];exact h.sp.c1
   obtain ⟨es,clock,hb,hcp⟩:=hrg.map.copied
   have hCl:Calls Tryz.prog 297 #[.map (some gc)] wr.drew fun e w'=>e=.returned (.map (some wr.heap.size))∧w'=wr.drew.alloc (.map es clock):=AnyW.maps_Clone Tryz.cloneL gc es clock wr.drew hb
   have hfin:∀W:World,Below wr.heap.size wr W→W.heap[wr.heap.size]? = some (.map es clock)→W.heap[wr.heap.size+1]? = some (.cells #[vp E.b,.map (some wr.heap.size)] 165)→Rx E w c gc (wr.heap.size+1) A W D P o:=by
    intro W hB hm1 hm2
    have hR:gT (fun f=>sh P f+o f+sh (fE P todo) f)=gT (fun f=>sh P f+(o f+sh P f)):=gI (fun z hz=>by rw [Qd hl];omega)
    rw [hR] at v1
    have vW:=v1.below hB
    have hown:∀i,i<w.heap.size→bO E A' i→bO E A i:=fun i hi ho=>by
     rcases ho with ho|ho
     ·exact .inl (s1 i hi ho)
     ·exact .inr ho
    have hsz:=f1.size
    refine ⟨wr.heap.size,A',⟨vW,h.sp.keep ((hB.block c (by omega)).trans hbc) ((hB.block gc (by have:=h.sp.uk;omega)).trans (f1.block gc h.sp.uk h.iO)),h.ok,h.Bh,fun ho=>h.mR (hown c hlc ho),fun ho=>h.iO (hown gc h.sp.uk ho),h.gb,h.gm⟩,⟨vW,⟨hm2,hcp W _ hm1⟩,h.ok,h.Bh,fun ho=>?_,fun ho=>?_,fun e=>?_,fun e=>?_⟩,f1.trans (oH (B:=fun _=>False) hB) (fun _ _ h=>h.elim),s1,by omega,by omega⟩
    ·have:=v1.Dm ho;omega
    ·have:=v1.Dm ho;omega
    ·have:=v1.blt;omega
    ·have:=v1.mlt;omega
   have c0a:∀ob,(wr.drew.alloc ob).cell? ⟨c,0,none⟩=some (vp E.b):=fun ob=>by
    rw [World.cell?_of_block (w:=wr) (a:=⟨c,0,none⟩) (Below.heap_alloc wr.drew ob c (by have:=f1.size;show c<wr.heap.size;omega))];exact c0'
   have ajI:c<wr.heap.size:=by have:=f1.size;omega
   go_wp2_with fail
   go_region_with (go_at_call 297;refine hCl.mono ?_;rintro e w2 ⟨rfl,h2⟩;subst w2)
   all_goals
    go_wp2_with fail
    go_ret
    refine ⟨_,rfl,?_⟩
    refine hfin _ ?_ ?_ ?_
    ·exact (((Below.refl _ wr).drew).alloc (Nat.le_refl _) _).alloc (by simp) _
    ·show ((wr.heap.push _).push _)[wr.heap.size]? = _
     rw [Array.getElem?_push,if_neg (by simp),Array.getElem?_push,if_pos rfl]
    ·show ((wr.heap.push _).push _)[wr.heap.size+1]? = _
     rw [Array.getElem?_push,if_pos (by simp)]
  ·intro x v w1 cnt1 hwx htx hMx hrg1 hlt hg1 hs1 hen
   obtain ⟨p,hP,rfl⟩:∃p,P x=some p∧v=.agg #[.int .i64 p.1,.int .i64 p.2]:=by
    unfold vO at hMx;cases e:P x with
    |none=>rw [e] at hMx;cases hMx
    |some p=>rw [e] at hMx;exact ⟨p,rfl,(Option.some.inj hMx).symm⟩
   have hx:=h.ok.key x (by rw [hP];rfl)
   have hfx:aR P x=p.2:=mh hP
   have hlc:=h.sp.lt
   have hwr:=f1.size
   have k1:∀i,i<wr.heap.size→i≠w.heap.size→w1.heap[i]? = wr.heap[i]? := fun i hi hn=>hg1.block i hi (fun e=>hn (Option.some.inj e))
   have v2:Vs E w1 D (gT fun f=>sh P f+o f+sh (fE P todo) f) A':=v1.keep (fun i hi=>k1 i (v1.Dm hi) (fun e=>hrn (e ▸ hi))) (k1 _ v1.blt (fun e=>by have:=h.st.blt;omega)) (k1 _ v1.mlt (fun e=>by have:=h.st.mlt;omega))
   have f2:Fr (bO E A) w w1:=f1.trans (Fr.grown hg1) (fun i hi e=>by omega)
   obtain ⟨W,hW⟩:∃W,w1.alloc (.cells #[.int .i64 p.1,.int .i64 p.2] 264)=W:=⟨_,rfl⟩
   have bW:Below w1.heap.size w1 W:=by rw [←hW];exact (Below.refl _ w1).alloc (Nat.le_refl _) _
   have v3:=v2.below bW
   have f3:Fr (bO E A) w W:=f2.trans (oH (B:=fun _=>False) bW) (fun _ _ h=>h.elim)
   have hgl:=h.sp.uk
   have hrg3:vS W gc w.heap.size (bX P) (vO P) (fun z=>todo z && !decide (z=x)) cnt1:=hrg1.keep (bW.block gc (by rw [hs1];omega)) (bW.block _ hrg1.rlt)
   have c0':W.cell? ⟨c,0,none⟩=some (vp E.b):=by rw [World.cell?_of_block (w:=w) (a:=⟨c,0,none⟩) (f3.block c hlc h.mR)];exact c0
   have hnew:=qI w1 (.cells #[.int .i64 p.1,.int .i64 p.2] 264)
   rw [hW] at hnew
   obtain ⟨q0,q1,_,_⟩:=mD hnew
   have hlW:w.heap.size<W.heap.size:=hrg3.rlt
   have hSh:Calls Tryz.prog 296 #[vp E.b,.int .i64 p.2] W.drew fun e w'=>e=.returned (.tuple #[])∧∃todo A',vS w' gc w.heap.size (bX P) (vO P) todo cnt1∧Vs E w' D (gT fun f=>sh P f+o f+sh (fE P todo) f) A'∧Fr (bO E A) w w'∧(∀i,i<w.heap.size→A' i→A i)∧¬bO E A' w.heap.size:=by
    have v4:Vs E W.drew D (gT fun f=>sh P f+o f+sh (fE P todo) f) A':=v3.keep (fun _ _=>rfl) rfl rfl
    have fd:Fr (bO E A) w W.drew:=f3.trans (Fr.drew (fun _=>False) W) (fun _ _ h=>h.elim)
    rcases h.ok.frame x with e0|e0<;>rw [hfx] at e0
    ·rw [e0]
     refine v4.JY.mono ?_
     rintro e w' ⟨he,rfl⟩
     have hR:gT (fun f=>sh P f+o f+sh (fE P (fun z=>todo z && !decide (z=x))) f)=gT (fun f=>sh P f+o f+sh (fE P todo) f):=gI (fun z hz=>by rw [Mc hP htx hx.1 hx.2 hz,e0,if_neg (by omega)];omega)
     exact ⟨he,_,A',hrg3.keep rfl rfl,by rw [hR];exact v4,fd,s1,hrn⟩
    ·have afz:=yU (a:=x) h.ok (by rw [hfx];omega)
     rw [hfx] at afz
     have hdl:=JZ (P:=P) (todo:=todo) e0.1
     have hds:=h.Bh p.2 e0.1
     have hoo:=ho p.2 e0.1
     have hvv:val (gT fun f=>sh P f+o f+sh (fE P todo) f) p.2=sh P p.2+o p.2+sh (fE P todo) p.2:=pq e0.1
     refine (v4.Td p.2 (Hg e0.1 (by omega)) (by rw [hvv];omega)).mono ?_
     rintro e w' ⟨he,A2,v5,f5,s5⟩
     have hR:=v5.rof (t:=fun f=>sh P f+o f+sh (fE P (fun z=>todo z && !decide (z=x))) f) (fun z hz=>by
      rw [LK,Mc hP htx hx.1 hx.2 hz]
      by_cases e:z=p.2
      ·rw [if_pos e,hvv,if_pos e.symm,e];omega
      ·rw [if_neg e,if_neg (fun h=>e h.symm),pq hz];omega)
     rw [hR] at v5
     have hsub:∀i,i<W.heap.size→bO E A2 i→bO E A' i:=fun i hi ho=>by
      rcases ho with ho|ho
      ·exact .inl (s5 i hi ho)
      ·exact .inr ho
     have hgA:¬bO E A' gc:=fun hh=>h.iO (by rcases hh with hh|hh;exact .inl (s1 gc hgl hh);exact .inr hh)
     refine ⟨he,_,A2,hrg3.keep (f5.block gc (by show gc<W.heap.size;omega) hgA) (f5.block _ hlW hrn),v5,fd.trans f5 (fun i hi hh=>?_),fun i hi ha=>s1 i hi (s5 i (by show i<W.heap.size;omega) ha),fun hh=>hrn (hsub _ hlW hh)⟩
     rcases hh with hh|hh
     ·exact .inl (s1 i hi hh)
     ·exact .inr hh
   clear hs1 bW v3 v2 v1 f3 f2 f1 hrg hrg1 hrg3 k1 h c0 hMx htx hP hfx s1 hrn ho
   obtain ⟨p1,p2⟩:=p
   simp only at q0 q1 hSh hen hW
   go_wp2_with fail
   go_region_with (go_at_call 296;refine hSh.mono ?_;rintro e w5 ⟨rfl,h5⟩)
   all_goals
    go_wp2_with fail
    go_roundg cnt1
    case measure=>exact hlt
    case rel=>exact h5
end
abbrev Sq:=Nat×Nat×PM
def lh (L:List Sq) (f:Int):Nat:=(L.map fun x=>sh x.2.2 f).sum
theorem F7 {L:List Sq}{i:Nat}(hi:i<L.length) (x:Sq) (f:Int):lh (L.set i x) f+sh L[i].2.2 f=lh L f+sh x.2.2 f:=by
 unfold lh
 induction L generalizing i with
 |nil=>cases hi
 |cons y r ih=>
  cases i with
  |zero=>simp;omega
  |succ i=>
   have:=ih (i:=i) (by simpa using hi)
   simp at this ⊢;omega
theorem D9 {L:List Sq}{i:Nat}(hi:i<L.length) (f:Int):sh L[i].2.2 f≤lh L f:=by
 unfold lh
 induction L generalizing i with
 |nil=>cases hi
 |cons y r ih=>
  cases i with
  |zero=>simp
  |succ i=>
   have:=ih (i:=i) (by simpa using hi)
   simp at this ⊢;omega
theorem SL (L:List Sq) (x:Sq) (f:Int):lh (L ++ [x]) f=lh L f+sh x.2.2 f:=by unfold lh;simp
theorem V9 {L:List Sq}{f:Int}(h:∀x∈L,sh x.2.2 f≤1):lh L f≤L.length:=by
 unfold lh
 induction L with
 |nil=>simp
 |cons y r ih=>
  have h1:=h y (by simp)
  have h2:=ih (fun x hx=>h x (by simp [hx]))
  simp at h2 ⊢;omega
def xQ (L:List Sq) (i:Nat) (hi:i<L.length) (f:Int):Nat:=lh L f-sh L[i].2.2 f
theorem yj {L:List Sq}{i:Nat}(hi:i<L.length) (f:Int):sh L[i].2.2 f+xQ L i hi f=lh L f:=by
 have:=D9 hi f;unfold xQ;omega
structure Al (E:St) (w:World) (D:Nat→Nat→Int) (A:Nat→Prop) (L:List Sq):Prop where
 sp:∀i (hi:i<L.length),VS E w L[i].1 L[i].2.1 D A L[i].2.2 (xQ L i hi)
 apart:∀i j (hi:i<L.length) (hj:j<L.length),L[i].2.1=L[j].2.1→i=j
 pos:0<L.length
def Nr (E:St) (A:Nat→Prop) (L:List Sq) (i:Nat):Prop:=bO E A i∨∃x∈L,i=x.2.1
def FW (E:St) (w:World) (A:Nat→Prop) (L:List Sq) (w':World) (D:Nat→Nat→Int) (L':List Sq):Prop:=
 ∃A',Al E w' D A' L'∧Fr (Nr E A L) w w'∧∀i,i<w.heap.size→Nr E A' L' i→Nr E A L i
section
variable {E:St}{w w':World}{D D':Nat→Nat→Int}{A:Nat→Prop}{L:List Sq}
theorem Mf {i:Nat}(hi:i<L.length):gT (fun f=>sh L[i].2.2 f+xQ L i hi f)=gT (lh L):=gI (fun x _=>yj hi x)
theorem Al.st (h:Al E w D A L):Vs E w D (gT (lh L)) A:=by
 have:=(h.sp 0 h.pos).st
 rwa [Mf] at this
theorem Al.below (h:Al E w D A L) (hb:Below w.heap.size w w'):Al E w' D A L:=⟨fun i hi=>(h.sp i hi).below hb,h.apart,h.pos⟩
theorem Al.Dm (h:Al E w D A L) {i:Nat}(ho:Nr E A L i):i<w.heap.size:=by
 rcases ho with ho|⟨x,hx,rfl⟩
 ·exact h.st.Dm ho
 ·obtain ⟨j,hj,rfl⟩:=List.mem_iff_getElem.1 hx
  exact (h.sp j hj).sp.uk
theorem ET {i:Nat}(hi:i<L.length) (x:Sq) (f:Int):xQ (L.set i x) i (by simpa using hi) f=xQ L i hi f:=by
 have:=F7 hi x f
 have:=D9 hi f
 unfold xQ;simp;omega
theorem Al.turn (h:Al E w D A L) {i:Nat}(hi:i<L.length) {P':PM}(t:aW E w L[i].1 L[i].2.1 A w' D' P' (xQ L i hi)):FW E w A L w' D' (L.set i (L[i].1,L[i].2.1,P')):=by
 obtain ⟨A',v,f,s⟩:=t
 have hl:(L.set i (L[i].1,L[i].2.1,P')).length=L.length:=by simp
 have vi:=h.sp i hi
 have hown:∀j,j<w.heap.size→bO E A' j→bO E A j:=fun j hj ho=>by
  rcases ho with ho|ho
  ·exact .inl (s j hj ho)
  ·exact .inr ho
 have hvt:gT (fun f=>sh P' f+xQ L i hi f)=gT (lh (L.set i (L[i].1,L[i].2.1,P'))):=gI (fun x _=>by
  have h1:=F7 hi (L[i].1,L[i].2.1,P') x
  have h2:=D9 hi x
  unfold xQ;simp only at h1;omega)
 refine ⟨A',⟨fun j hj=>?_,fun j k hj hk e=>?_,by rw [hl];exact h.pos⟩,f.mono (fun j _ ho=>?_),fun j hj ho=>?_⟩
 ·by_cases e:j=i
  ·subst e
   have e1:(L.set j (L[j].1,L[j].2.1,P'))[j]=(L[j].1,L[j].2.1,P'):=by simp
   rw [e1]
   have:(xQ (L.set j (L[j].1,L[j].2.1,P')) j hj)=xQ L j hi:=by funext z;exact ET hi _ z
   rw [this];exact v
  ·have hj':j<L.length:=by simpa using hj
   have e1:(L.set i (L[i].1,L[i].2.1,P'))[j]=L[j]:=by simp [Ne.symm e]
   have vj:=h.sp j hj'
   rw [e1]
   have hgj:L[j].2.1≠L[i].2.1:=fun he=>e (h.apart j i hj' hi he)
   have hcj:L[j].1≠L[i].2.1:=fun he=>by
    obtain ⟨es,cl,hm⟩:=vi.sp.map.isMap
    rw [←he,vj.sp.head] at hm;cases hm
   refine ⟨?_,vj.sp.keep (f.block _ vj.sp.lt (fun ho=>?_)) (f.block _ vj.sp.uk (fun ho=>?_)),vj.ok,vj.Bh,fun ho=>vj.mR (hown _ vj.sp.lt ho),fun ho=>vj.iO (hown _ vj.sp.uk ho),vj.gb,vj.gm⟩
   ·have hR:gT (fun f=>sh L[j].2.2 f+xQ (L.set i (L[i].1,L[i].2.1,P')) j hj f)=gT (lh (L.set i (L[i].1,L[i].2.1,P'))):=gI (fun x _=>by
     have:=yj hj x;rw [e1] at this;exact this)
    rw [hR,←hvt];exact v.st
   ·rcases ho with ho|ho
    ·exact vj.mR ho
    ·exact hcj ho
   ·rcases ho with ho|ho
    ·exact vj.iO ho
    ·exact hgj ho
 ·have hj':j<L.length:=by simpa using hj
  have hk':k<L.length:=by simpa using hk
  refine h.apart j k hj' hk' ?_
  have g:∀m (hm:m<L.length),(L.set i (L[i].1,L[i].2.1,P'))[m]'(by simpa using hm)=if i=m then (L[i].1,L[i].2.1,P') else L[m]:=fun m hm=>by rw [List.getElem_set]
  rw [g j hj',g k hk'] at e
  by_cases e1:i=j<;>by_cases e2:i=k
  ·subst e1;subst e2;rfl
  ·subst e1;simpa [e2] using e
  ·subst e2;simpa [e1] using e
  ·simpa [e1,e2] using e
 ·rcases ho with ho|ho
  ·exact .inl ho
  ·exact .inr ⟨L[i],List.getElem_mem hi,ho⟩
 ·rcases ho with ho|⟨x,hx,rfl⟩
  ·exact .inl (hown j hj ho)
  ·rcases List.mem_or_eq_of_mem_set hx with hx|rfl
   ·exact .inr ⟨x,hx,rfl⟩
   ·exact .inr ⟨L[i],List.getElem_mem hi,rfl⟩
theorem Al.y8 (h:Al E w D A L) {i:Nat}(hi:i<L.length) {c':Nat}(t:Rx E w L[i].1 L[i].2.1 c' A w' D L[i].2.2 (xQ L i hi)):∃gc',FW E w A L w' D (L ++ [(c',gc',L[i].2.2)])∧w.heap.size≤c':=by
 obtain ⟨gc',A',v,v',f,s,lc,lg⟩:=t
 have hown:∀j,j<w.heap.size→bO E A' j→bO E A j:=fun j hj ho=>by
  rcases ho with ho|ho
  ·exact .inl (s j hj ho)
  ·exact .inr ho
 have hvt:gT (fun f=>sh L[i].2.2 f+(xQ L i hi f+sh L[i].2.2 f))=gT (lh (L ++ [(c',gc',L[i].2.2)])):=gI (fun x _=>by
  have h1:=SL L (c',gc',L[i].2.2) x
  have h2:=yj hi x
  simp only at h1;omega)
 have hst:Vs E w' D (gT (lh (L ++ [(c',gc',L[i].2.2)]))) A':=by rw [←hvt];exact v.st
 refine ⟨gc',⟨A',⟨fun j hj=>?_,fun j k hj hk e=>?_,by simp⟩,f.mono (fun j _ ho=>.inl ho),fun j hj ho=>?_⟩,lc⟩
 ·have hR:gT (fun f=>sh (L ++ [(c',gc',L[i].2.2)])[j].2.2 f+xQ (L ++ [(c',gc',L[i].2.2)]) j hj f)=gT (lh (L ++ [(c',gc',L[i].2.2)])):=Mf hj
  by_cases e:j<L.length
  ·have e1:(L ++ [(c',gc',L[i].2.2)])[j]=L[j]:=by rw [List.getElem_append_left e]
   have vj:=h.sp j e
   rw [e1] at hR ⊢
   exact ⟨by rw [hR];exact hst,vj.sp.keep (f.block _ vj.sp.lt vj.mR) (f.block _ vj.sp.uk vj.iO),vj.ok,vj.Bh,fun ho=>vj.mR (hown _ vj.sp.lt ho),fun ho=>vj.iO (hown _ vj.sp.uk ho),vj.gb,vj.gm⟩
  ·have ej:j=L.length:=by simp at hj;omega
   subst ej
   have e1:(L ++ [(c',gc',L[i].2.2)])[L.length]=(c',gc',L[i].2.2):=by simp
   rw [e1] at hR ⊢
   exact ⟨by rw [hR];exact hst,v'.sp,v'.ok,v'.Bh,v'.mR,v'.iO,v'.gb,v'.gm⟩
 ·have g:∀m (hm:m<L.length),(L ++ [(c',gc',L[i].2.2)])[m]'(by simp;omega)=L[m]:=fun m hm=>by rw [List.getElem_append_left hm]
  have lt:∀m (hm:m<L.length),L[m].2.1<w.heap.size:=fun m hm=>(h.sp m hm).sp.uk
  have g':∀m (hm:m<(L ++ [(c',gc',L[i].2.2)]).length),¬m<L.length→(L ++ [(c',gc',L[i].2.2)])[m]=(c',gc',L[i].2.2):=fun m hm hn=>by
   have:m=L.length:=by simp at hm;omega
   subst this;simp
  by_cases e1:j<L.length<;>by_cases e2:k<L.length
  ·rw [g j e1,g k e2] at e;exact h.apart j k e1 e2 e
  ·rw [g j e1,g' k hk e2] at e;have:=lt j e1;simp only at e;omega
  ·rw [g' j hj e1,g k e2] at e;have:=lt k e2;simp only at e;omega
  ·simp at hj hk;omega
 ·rcases ho with ho|⟨x,hx,rfl⟩
  ·exact .inl (hown j hj ho)
  ·rcases List.mem_append.1 hx with hx|hx
   ·exact .inr ⟨x,hx,rfl⟩
   ·simp at hx;subst hx;simp only at hj;omega
theorem Al.left (h:Al E w D A L):Calls Tryz.prog 140 #[vp E.b] w fun e w'=>e=.returned (.int .i64 ((E.n-used (lh L) E.n:Nat):Int))∧w'=w:=h.st.left
theorem Al.aaq (h:Al E w D A L) (hl:L.length≤500) {i:Nat}(hi:i<L.length):∀f,0≤f→xQ L i hi f≤500:=fun f hf=>by
 have h1:=yj hi f
 have h2:=V9 (L:=L) (f:=f) (fun x hx=>by
  obtain ⟨j,hj,rfl⟩:=List.mem_iff_getElem.1 hx
  exact (h.sp j hj).Bh f hf)
 omega
theorem Al.uP (h:Al E w D A L) (hl:L.length≤500) {i:Nat}(hi:i<L.length):Calls Tryz.prog 229 #[vp L[i].1] w fun e w'=>∃c',e=.returned (vp c')∧∃gc',FW E w A L w' D (L ++ [(c',gc',L[i].2.2)])∧w.heap.size≤c':=by
 refine ((h.sp i hi).uP (h.aaq hl hi)).mono ?_
 rintro e w' ⟨c',he,t⟩
 exact ⟨c',he,h.y8 hi t⟩
theorem Al.keep (h:Al E w D A L) (hk:∀i,Nr E A L i→w'.heap[i]? = w.heap[i]?) (hb:w'.heap[E.b]? = w.heap[E.b]?) (hm:w'.heap[E.bm]? = w.heap[E.bm]?) (hc:∀i (hi:i<L.length),w'.heap[L[i].1]? = w.heap[L[i].1]?):Al E w' D A L:=
 ⟨fun i hi=>(h.sp i hi).keep (fun j hj=>hk j (.inl hj)) hb hm (hc i hi) (hk _ (.inr ⟨L[i],List.getElem_mem hi,rfl⟩)),h.apart,h.pos⟩
theorem Al.first {c gc:Nat}(h:VS E w c gc D A (fun _=>none) (fun _=>0)):Al E w D A [(c,gc,fun _=>none)]:=by
 refine ⟨fun i hi=>?_,fun i j hi hj _=>by simp at hi hj;omega,by simp⟩
 have:i=0:=by simp at hi;omega
 subst this
 have e:xQ [(c,gc,fun _=>none)] 0 hi=fun _=>0:=by funext f;simp [xQ,lh]
 rw [e];exact h
theorem JP {t t':Int→Nat}{n:Nat}(h:∀x,0≤x→t x=t' x):used t n=used t' n:=by unfold used;rw [gI h]
theorem BU (n:Nat):used (fun _=>0) n=0:=Ml n
theorem LP (t:Int→Nat) (n:Nat):used t n=sumTo (fun f=>if t f=0 then 0 else 1) 0 n:=by
 unfold used num;refine sumTo_congr _ _ (fun i _ _=>?_)
 by_cases e:t (i:Int)=0<;>simp [gT,e]
end
section
variable {D:Nat→Nat→Int}{P:PM}{o:Int→Nat}
theorem uo.refused {n:Nat}{a k v er:Int}{P':PM}{D':Nat→Nat→Int}(h:uo n P o D a k v er P' D') (he:er≠0):P'=P∧D'=D:=by
 rcases h with ⟨_,_,h1,h2⟩|⟨_,_,_,h0,_⟩|⟨_,_,_,_,h1,h2⟩|⟨_,_,f,_,_,h0,_⟩
 ·exact ⟨h1,h2⟩
 ·exact absurd h0 he
 ·exact ⟨h1,h2⟩
 ·exact absurd h0 he
end
theorem NI {t t':Int→Nat}{n f:Nat}(hf:f<n) (h0:t (f:Int)=0) (h1:t' (f:Int)≠0) (ho:∀x:Int,0≤x→x≠(f:Int)→(t x=0↔t' x=0)):used t' n=used t n+1:=by
 rw [LP,LP]
 refine gG (f:=f) (d:=1) (by simp [h0,h1]) (fun i hi=>?_) n 0 (by omega) (by omega)
 have:=ho i (by omega) (by omega)
 by_cases e:t (i:Int)=0
 ·rw [if_pos e,if_pos (this.1 e)]
 ·rw [if_neg e,if_neg (fun e'=>e (this.2 e'))]
def P1:PM:=fB (fun _=>none) 0 2 3
theorem acV:P1 0=some (3,-1):=by unfold P1 fB;rfl
theorem JI (x:Int):aR P1 x=-1:=by
 have:P1 x=some (3,-1)∨P1 x=none:=by
  unfold P1 fB;by_cases h:0≤x∧x<0+((2:Nat):Int)
  ·exact .inl (if_pos h)
  ·exact .inr (if_neg h)
 rcases this with h|h
 ·rw [mh h]
 ·exact oG h
theorem Rv {f:Int}(hf:0≤f):sh P1 f=0:=yg hf (fun a=>by rw [JI];omega)
theorem adJ {f z:Int}(_hf:0≤f) (hz:0≤z):sh (dE P1 0 (3,f)) z=if f=z then 1 else 0:=by
 have h:=yT (P:=P1) (a:=0) (by omega) (by omega) (3,f) z
 rw [Rv hz,JI,if_neg (by omega)] at h
 simpa using h
theorem adK:(pg P1 0).1=3:=by unfold pg;rw [acV];rfl
theorem acU (f:Int):dE P1 0 (3,f) 0=some (3,f):=by unfold dE;rw [if_pos rfl]
theorem RA {P:PM}{f:Int}(h:P 0=some (3,f)):dN P 0 1 2=0∧dN P 0 1 1=0:=by unfold dN;rw [h];exact ⟨by simp,by simp⟩
end Go.Proofs.YtippochapiolpaaGreatDoor

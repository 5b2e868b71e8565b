/- A loop over a map that is keyed by int: which keys are still to come. -/
import Derived.Test.YtcfhanoekniaaaaGreatDoorSKeys
import Derived.Maps.RangeWalk
import Derived.Test.YtcfhanoekniaaaaGreatDoorVNew
import Derived.Test.YtcfhanoekniaaaaGreatDoorShelf8
set_option maxHeartbeats 8000000
set_option maxRecDepth 100000
namespace Go.Proofs.YtcfhanoekniaaaaGreatDoor
open Go.RowKit Go.Maps
def tF (w:World) (g r s:Nat) (M:Int→Option Value) (todo:Int→Bool) (cnt:Nat):Prop:=
 ∃(D:DataW Value) (left:Lit→Bool),w.ranges Tryz.prog 3 self g r s D left cnt∧Maps.size D=s∧(∀a,Maps.has D (.int .i64 a)=(M a).isSome)∧(∀a z,D.atKey (.int .i64 a) (.held z)=.held ((M a).getD z))∧∀a,left (.int .i64 a)=todo a
section
variable {w w':World}{g r s:Nat}{M:Int→Option Value}{todo:Int→Bool}{cnt:Nat}
theorem tF.map (h:tF w g r s M todo cnt):aG w g s M:=by
 obtain ⟨D,left,hr,h1,h2,h3,_⟩:=h
 exact ⟨D,hr.owns,h1,h2,h3⟩
theorem tF.keep (h:tF w g r s M todo cnt) (hg:w'.heap[g]? = w.heap[g]?) (hr:w'.heap[r]? = w.heap[r]?):tF w' g r s M todo cnt:=by
 obtain ⟨D,left,⟨es,clock,since,seen,c0,hb,F,hs,hD,hi,rest⟩,h1⟩:=h
 exact ⟨D,left,⟨es,clock,since,seen,c0,hg.trans hb,F,hs,hD,hr.trans hi,rest⟩,h1⟩
theorem tF.rlt (h:tF w g r s M todo cnt):r<w.heap.size:=by obtain ⟨D,left,hr,_⟩:=h;exact hr.lt
end
section
variable {ops:Array Oper}{rest:List Oper}{o:Oper}{a:Act}{w:World}{Q:Exit→Act→World→Prop}
theorem yL (hgd:o.guard=none) (m:Operand) (t:TypeId) (hop:o.op=Op.range t m) (e:TypeId) (ht:Tryz.prog.underlying t=some (.map 3 e)) (g n:Nat) (M:Int→Option Value) (hm:a.eval m=.map (some g)) (hown:aG w g n M)
 (h:∀w',tF w' g w.heap.size n M (fun x=>(M x).isSome) n→w.grownBy w' none→w'.heap.size=w.heap.size+1→wpList Tryz.prog ops Q rest (a.put o.dst (.pointer (some ⟨w.heap.size,0,none⟩))) w'):wpList Tryz.prog ops Q (o :: rest) a w:=by
 obtain ⟨D,hD,h1,h2,h3⟩:=hown
 refine wpList_range_own w hgd m t hop 3 e gu ht self g n D hm hD (fun w' hr hg hs=>h w' ⟨D,_,by rw [h1] at hr;exact hr,h1,h2,h3,fun x=>h2 x⟩ hg hs)
theorem Ch (hgd:o.guard=none) (it:Operand) (hop:o.op=Op.next it false) (g r n:Nat) (M:Int→Option Value) (todo:Int→Bool) (cnt:Nat) (hit:a.eval it=.pointer (some ⟨r,0,none⟩)) (hr:tF w g r n M todo cnt)
 (hDone:(∀x,todo x=false)→wpList Tryz.prog ops Q rest (a.put o.dst (.tuple #[.bool false])) w)
 (hMore:∀(x:Int) (v:Value) (w':World) (cnt':Nat),(Lit.int .i64 x).wf=true→todo x=true→M x=some v→tF w' g r n M (fun z=>todo z && !decide (z=x)) cnt'→cnt'<cnt→w.grownBy w' (some r)→w'.heap.size=w.heap.size→
   (Instr.entry (.pointer (some ⟨r,0,none⟩))).run Tryz.prog w'=.ok (.tuple #[.int .i64 x,v]) w'→wpList Tryz.prog ops Q rest (a.put o.dst (.tuple #[.bool true,.int .i64 x,v])) w'):wpList Tryz.prog ops Q (o :: rest) a w:=by
 obtain ⟨D,left,hrg,h1,h2,h3,h4⟩:=hr
 refine wpList_next_ranges w hgd it hop 3 gu self (Value.int .i64) (fun v:Value=>v) (fun key kl hkey=>by obtain ⟨x,rfl,_⟩:=Maps.keyOf_int_inv Tryz.underlying3 hkey;exact ⟨x,rfl⟩) (fun v y _=>⟨v,rfl⟩) g r n D left cnt hit hrg (fun _ hl=>hDone (fun x=>by rw [←h4];exact hl _)) ?_
 intro x v kl y w' cnt' hkey hlk hv hat ZZ hlt hg hs hen
 obtain ⟨x',ex,rfl,hwx⟩:=Maps.keyOf_int_inv Tryz.underlying3 hkey
 cases ex
 have hy:y=(.held v,[]):=by simp only [self,Option.some.injEq] at hv;exact hv.symm
 have hM:M x=some v:=by
  have e1:=(h3 x (.bool true)).symm.trans (hat (.held (.bool true)))
  have e2:=(h3 x (.bool false)).symm.trans (hat (.held (.bool false)))
  rw [hy] at e1 e2
  simp only [DataW.held.injEq] at e1 e2
  cases e:M x with
  |none=>rw [e] at e1 e2;simp only [Option.getD_none] at e1 e2;rw [←e1] at e2;cases e2
  |some u=>rw [e] at e1;simp only [Option.getD_some] at e1;rw [e1]
 refine hMore x v w' cnt' hwx (by rw [←h4];exact hlk) hM ⟨D,_,ZZ,h1,h2,h3,fun z=>?_⟩ hlt hg hs hen
 have hsk:(Lit.int .i64 z).sameKey (.int .i64 x)=decide (z=x):=by
  by_cases e:z=x<;>simp [Lit.sameKey,e]
 show (left (.int .i64 z) && !(Lit.int .i64 z).sameKey (.int .i64 x))=_
 rw [h4 z,hsk]
end
end Go.Proofs.YtcfhanoekniaaaaGreatDoor
namespace Go.Proofs.YtcfhanoekniaaaaGreatDoor
open Go.RowKit Go.Shelf Go.Lib Go.Sort Go.Maps
def eD (P:PM) (todo:Int→Bool):PM:=fun a=>if todo a then none else P a
theorem ER (P:PM):eD P (fun x=>(sP P x).isSome)=fun _=>none:=by
 funext x;unfold eD;simp only [kL];cases P x<;>rfl
theorem LD {P:PM}{todo:Int→Bool}(h:∀x,todo x=false):eD P todo=P:=by
 funext x;unfold eD;rw [h x];rfl
theorem GK {P:PM}{todo:Int→Bool}{x:Int}{p:Int×Int}(hP:P x=some p):eD P (fun z=>todo z && !decide (z=x))=bU (eD P todo) x p:=by
 funext z;unfold eD bU
 by_cases e:z=x
 ·subst e;simp [hP]
 ·simp [e]
theorem Ip {P:PM}{todo:Int→Bool}{x:Int}{p:Int×Int}(hP:P x=some p) (ht:todo x=true) (h0:0≤x) (h1:x<64) {f:Int}(hf:0≤f):sh (eD P (fun z=>todo z && !decide (z=x))) f=sh (eD P todo) f+if p.2=f then 1 else 0:=by
 rw [GK hP]
 have:=wG (P:=eD P todo) h0 h1 p f
 have e:cB (eD P todo) x=-1:=mO (by unfold eD;rw [ht];rfl)
 rw [if_neg (by rw [e];omega)] at this;omega
theorem F3 {P:PM}{todo:Int→Bool}{f:Int}(hf:0≤f):sh (eD P todo) f≤sh P f:=by
 refine JZ (fun i=>?_)
 by_cases e:todo (i:Int)=true
 ·have:cB (eD P todo) i=-1:=mO (by unfold eD;rw [e];rfl)
  rw [if_neg (by rw [this];omega)];exact Nat.zero_le _
 ·have:cB (eD P todo) i=cB P i:=by unfold cB eD;rw [if_neg e]
  rw [this];exact Nat.le_refl _
theorem aG.copied {w:World}{g n:Nat}{M:Int→Option Value}(m:aG w g n M):∃es clock,w.heap[g]? = some (.map es clock)∧∀(w':World) (g':Nat),w'.heap[g']? = some (.map es clock)→aG w' g' n M:=by
 obtain ⟨D,⟨es,clock,hb,F,hs,hD⟩,hM⟩:=m
 exact ⟨es,clock,hb,fun w' g' h=>⟨D,⟨es,clock,h,F,hs,hD⟩,hM⟩⟩
section
variable {E:St}{w w':World}{c gc:Nat}{D:Nat→Nat→Int}{A:Nat→Prop}{P:PM}{o:Int→Nat}
def M8 (E:St) (w:World) (c gc c':Nat) (A:Nat→Prop) (w':World) (D:Nat→Nat→Int) (P:PM) (o:Int→Nat):Prop:=
 ∃gc' A',VS E w' c gc D A' P (fun f=>o f+sh P f)∧VS E w' c' gc' D A' P (fun f=>o f+sh P f)∧Fr (bH E A) w w'∧(∀i,i<w.heap.size→A' i→A i)∧w.heap.size≤c'∧w.heap.size≤gc'
theorem VS.rR (h:VS E w c gc D A P o) (ho:∀f,0≤f→o f≤100):Calls Tryz.prog 139 #[vp c] w fun e w'=>∃c',e=.returned (vp c')∧M8 E w c gc c' A w' D P o:=by
 have c0:=h.sp.c0
 have c1:=h.sp.c1
 have hmp:=h.sp.map
 go_enter Tryz.func139,Tryz.ntmps139
 go_wp2_with (at_range;refine yL rfl _ 319 rfl 315 Tryz.underlying319 gc _ _ rfl hmp ?_;intro w0 hr0 hg0 hs0)
 go_frame
 have f0:Fr (bH E A) w w0:=⟨hg0.os,hg0.tape,hg0.output,hg0.size,fun i hi _=>hg0.block i hi (by simp)⟩
 have hrn:¬bH E A w.heap.size:=fun ho=>by have:=h.st.Au ho;omega
 have v0:Vs E w0 D (gU fun f=>sh P f+o f+sh (eD P (fun x=>(sP P x).isSome)) f) A:=by
  rw [fI (t':=fun f=>sh P f+o f) (fun x hx=>by simp only [ER];rw [oM hx];omega)]
  exact h.st.keep (fun i hi=>hg0.block i (h.st.Au hi) (by simp)) (hg0.block _ h.st.blt (by simp)) (hg0.block _ h.st.mlt (by simp))
 clear c1 hmp
 go_loopg [12] (bN P) (fun mm s12 wr=>∃todo A',tF wr gc w.heap.size (bN P) (sP P) todo mm∧Vs E wr D (gU fun f=>sh P f+o f+sh (eD P todo) f) A'∧Fr (bH E A) w wr∧(∀i,i<w.heap.size→A' i→A i)∧¬bH E A' w.heap.size)
 case atStart=>exact ⟨_,A,hr0,v0,f0,fun _ _ h=>h,hrn⟩
 case round=>
  clear hr0 hg0 hs0 f0 v0 hrn
  obtain ⟨todo,A',hrg,v1,f1,s1,hrn⟩:=hrel
  go_wp2_with (at_next;refine Ch rfl _ rfl gc w.heap.size _ _ _ _ rfl hrg ?_ ?_)
  ·intro hl
   have hlc:=h.sp.lt
   have hbc:=f1.block c hlc h.kX
   have c0':wr.cell? ⟨c,0,none⟩=some (vp E.b):=by rw [World.cell?_of_block (w:=w) (a:=⟨c,0,none⟩) hbc];exact c0
   have c1':wr.cell? ⟨c,1,none⟩=some (.map (some gc)):=by rw [World.cell?_of_block (w:=w) (a:=⟨c,1,none⟩) hbc];exact h.sp.c1
   obtain ⟨es,clock,hb,hcp⟩:=hrg.map.copied
   have Wy:Calls Tryz.prog 238 #[.map (some gc)] wr.drew fun e w'=>e=.returned (.map (some wr.heap.size))∧w'=wr.drew.alloc (.map es clock):=AnyW.maps_Clone Tryz.cloneL gc es clock wr.drew hb
   have hfin:∀W:World,Below wr.heap.size wr W→W.heap[wr.heap.size]? = some (.map es clock)→W.heap[wr.heap.size+1]? = some (.cells #[vp E.b,.map (some wr.heap.size)] 321)→M8 E w c gc (wr.heap.size+1) A W D P o:=by
    intro W hB hm1 hm2
    have hR:gU (fun f=>sh P f+o f+sh (eD P todo) f)=gU (fun f=>sh P f+(o f+sh P f)):=fI (fun z hz=>by rw [LD hl];omega)
    rw [hR] at v1
    have vW:=v1.below hB
    have hown:∀i,i<w.heap.size→bH E A' i→bH E A i:=fun i hi ho=>by
     rcases ho with ho|ho
     ·exact .inl (s1 i hi ho)
     ·exact .inr ho
    have hsz:=f1.size
    refine ⟨wr.heap.size,A',⟨vW,h.sp.keep ((hB.block c (by omega)).trans hbc) ((hB.block gc (by have:=h.sp.rf;omega)).trans (f1.block gc h.sp.rf h.gX)),h.ok,h.Ay,fun ho=>h.kX (hown c hlc ho),fun ho=>h.gX (hown gc h.sp.rf ho),h.gb,h.gm⟩,⟨vW,⟨hm2,hcp W _ hm1⟩,h.ok,h.Ay,fun ho=>?_,fun ho=>?_,fun e=>?_,fun e=>?_⟩,f1.trans (mP (B:=fun _=>False) hB) (fun _ _ h=>h.elim),s1,by omega,by omega⟩
    ·have:=v1.Au ho;omega
    ·have:=v1.Au ho;omega
    ·have:=v1.blt;omega
    ·have:=v1.mlt;omega
   have c0a:∀ob,(wr.drew.alloc ob).cell? ⟨c,0,none⟩=some (vp E.b):=fun ob=>by
    rw [World.cell?_of_block (w:=wr) (a:=⟨c,0,none⟩) (Below.heap_alloc wr.drew ob c (by have:=f1.size;show c<wr.heap.size;omega))];exact c0'
   have aei:c<wr.heap.size:=by have:=f1.size;omega
   clear h v1 hrg f1 s1 hcp hb ho hrn c0 hbc
   go_wp2_with fail
   go_region_with (go_at_call 238;refine Wy.mono ?_;rintro e w2 ⟨rfl,h2⟩;subst w2)
   all_goals
    go_wp2_with fail
    go_ret
    refine ⟨_,rfl,?_⟩
    refine hfin _ ?_ ?_ ?_
    ·exact (((Below.refl _ wr).drew).alloc (Nat.le_refl _) _).alloc (by simp) _
    ·show ((wr.heap.push _).push _)[wr.heap.size]? = _
     rw [Array.getElem?_push,if_neg (by simp),Array.getElem?_push,if_pos rfl]
    ·show ((wr.heap.push _).push _)[wr.heap.size+1]? = _
     rw [Array.getElem?_push,if_pos (by simp)]
  ·intro x v w1 cnt1 hwx htx Ww hrg1 hlt hg1 hs1 hen
   obtain ⟨p,hP,rfl⟩:∃p,P x=some p∧v=.agg #[.int .i64 p.1,.int .i64 p.2]:=by
    unfold sP at Ww;cases e:P x with
    |none=>rw [e] at Ww;cases Ww
    |some p=>rw [e] at Ww;exact ⟨p,rfl,(Option.some.inj Ww).symm⟩
   have hx:=h.ok.key x (by rw [hP];rfl)
   have hfx:cB P x=p.2:=kH hP
   have hlc:=h.sp.lt
   have hwr:=f1.size
   have k1:∀i,i<wr.heap.size→i≠w.heap.size→w1.heap[i]? = wr.heap[i]? := fun i hi hn=>hg1.block i hi (fun e=>hn (Option.some.inj e))
   have v2:Vs E w1 D (gU fun f=>sh P f+o f+sh (eD P todo) f) A':=v1.keep (fun i hi=>k1 i (v1.Au hi) (fun e=>hrn (e ▸ hi))) (k1 _ v1.blt (fun e=>by have:=h.st.blt;omega)) (k1 _ v1.mlt (fun e=>by have:=h.st.mlt;omega))
   have f2:Fr (bH E A) w w1:=f1.trans (Fr.grown hg1) (fun i hi e=>by omega)
   obtain ⟨W,hW⟩:∃W,w1.alloc (.cells #[.int .i64 p.1,.int .i64 p.2] 315)=W:=⟨_,rfl⟩
   have bW:Below w1.heap.size w1 W:=by rw [←hW];exact (Below.refl _ w1).alloc (Nat.le_refl _) _
   have v3:=v2.below bW
   have f3:Fr (bH E A) w W:=f2.trans (mP (B:=fun _=>False) bW) (fun _ _ h=>h.elim)
   have hgl:=h.sp.rf
   have hrg3:tF W gc w.heap.size (bN P) (sP P) (fun z=>todo z && !decide (z=x)) cnt1:=hrg1.keep (bW.block gc (by rw [hs1];omega)) (bW.block _ hrg1.rlt)
   have c0':W.cell? ⟨c,0,none⟩=some (vp E.b):=by rw [World.cell?_of_block (w:=w) (a:=⟨c,0,none⟩) (f3.block c hlc h.kX)];exact c0
   have hnew:=mJ w1 (.cells #[.int .i64 p.1,.int .i64 p.2] 315)
   rw [hW] at hnew
   obtain ⟨q0,q1,_,_⟩:=kM hnew
   have hlW:w.heap.size<W.heap.size:=hrg3.rlt
   have Yt:Calls Tryz.prog 237 #[vp E.b,.int .i64 p.2] W.drew fun e w'=>e=.returned (.tuple #[])∧∃todo A',tF w' gc w.heap.size (bN P) (sP P) todo cnt1∧Vs E w' D (gU fun f=>sh P f+o f+sh (eD P todo) f) A'∧Fr (bH E A) w w'∧(∀i,i<w.heap.size→A' i→A i)∧¬bH E A' w.heap.size:=by
    have v4:Vs E W.drew D (gU fun f=>sh P f+o f+sh (eD P todo) f) A':=v3.keep (fun _ _=>rfl) rfl rfl
    have fd:Fr (bH E A) w W.drew:=f3.trans (Fr.drew (fun _=>False) W) (fun _ _ h=>h.elim)
    rcases h.ok.frame x with e0|e0<;>rw [hfx] at e0
    ·rw [e0]
     refine v4.FZ.mono ?_
     rintro e w' ⟨he,rfl⟩
     have hR:gU (fun f=>sh P f+o f+sh (eD P (fun z=>todo z && !decide (z=x))) f)=gU (fun f=>sh P f+o f+sh (eD P todo) f):=fI (fun z hz=>by rw [Ip hP htx hx.1 hx.2 hz,e0,if_neg (by omega)];omega)
     exact ⟨he,_,A',hrg3.keep rfl rfl,by rw [hR];exact v4,fd,s1,hrn⟩
    ·have ZY:=tH (a:=x) h.ok (by rw [hfx];omega)
     rw [hfx] at ZY
     have hdl:=F3 (P:=P) (todo:=todo) e0.1
     have hds:=h.Ay p.2 e0.1
     have hoo:=ho p.2 e0.1
     have hvv:val (gU fun f=>sh P f+o f+sh (eD P todo) f) p.2=sh P p.2+o p.2+sh (eD P todo) p.2:=nJ e0.1
     refine (v4.N9 p.2 (Eo e0.1 (by omega)) (by rw [hvv];omega)).mono ?_
     rintro e w' ⟨he,A2,v5,f5,s5⟩
     have hR:=v5.YT (t:=fun f=>sh P f+o f+sh (eD P (fun z=>todo z && !decide (z=x))) f) (fun z hz=>by
      rw [Ic,Ip hP htx hx.1 hx.2 hz]
      by_cases e:z=p.2
      ·rw [if_pos e,hvv,if_pos e.symm,e];omega
      ·rw [if_neg e,if_neg (fun h=>e h.symm),nJ hz];omega)
     rw [hR] at v5
     have hsub:∀i,i<W.heap.size→bH E A2 i→bH E A' i:=fun i hi ho=>by
      rcases ho with ho|ho
      ·exact .inl (s5 i hi ho)
      ·exact .inr ho
     have hgA:¬bH E A' gc:=fun hh=>h.gX (by rcases hh with hh|hh;exact .inl (s1 gc hgl hh);exact .inr hh)
     refine ⟨he,_,A2,hrg3.keep (f5.block gc (by show gc<W.heap.size;omega) hgA) (f5.block _ hlW hrn),v5,fd.trans f5 (fun i hi hh=>?_),fun i hi ha=>s1 i hi (s5 i (by show i<W.heap.size;omega) ha),fun hh=>hrn (hsub _ hlW hh)⟩
     rcases hh with hh|hh
     ·exact .inl (s1 i hi hh)
     ·exact .inr hh
   clear hs1 bW v3 v2 v1 f3 f2 f1 hrg hrg1 hrg3 k1 h c0 Ww htx hP hfx s1 hrn ho
   obtain ⟨p1,p2⟩:=p
   simp only at q0 q1 Yt hen hW
   go_wp2_with fail
   go_region_with (go_at_call 237;refine Yt.mono ?_;rintro e w5 ⟨rfl,h5⟩)
   all_goals
    go_wp2_with fail
    go_roundg cnt1
    case measure=>exact hlt
    case rel=>exact h5
end
end Go.Proofs.YtcfhanoekniaaaaGreatDoor

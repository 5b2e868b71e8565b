/- KernelGoes, plainly: what a store of a kernel makes of the processes. -/
import Derived.Test.YtcfhanoekniaaaaGreatDoorZTalks
import Derived.Test.YtcfhanoekniaaaaGreatDoorJDead
import Derived.Test.YtcfhanoekniaaaaGreatDoorZScr
import Derived.Deep.LoopGhost
import Derived.Deep.DeepCutAuto
import Derived.Deep.CutBlock
set_option maxHeartbeats 16000000
set_option maxRecDepth 100000
namespace Go.Proofs.YtcfhanoekniaaaaGreatDoor
section
variable {S S':KS}{p a k v:Int}{o:Ow}
theorem le_sumL:∀ {l:List Nat}{x:Nat},x∈l→x≤l.sum
 |y :: l,x,h=>by
  rw [List.sum_cons]
  rcases List.mem_cons.1 h with rfl|h
  ·omega
  ·have:=le_sumL h;omega
theorem tot_split (hl:o.j<S.Ms.length):(fun f=>sh (msJ S o.j) f+othM S o.j f)=totM S.Ms:=by
 funext f
 unfold othM
 have:sh (msJ S o.j) f≤totM S.Ms f:=by
  unfold totM
  refine le_sumL (List.mem_map.2 ⟨msJ S o.j,?_,rfl⟩)
  rw [ms_at hl];exact List.getElem_mem hl
 omega
theorem useE_vals (P:PM) (a k u:Int):useE P a k u=0∨useE P a k u=2∨useE P a k u=7∨useE P a k u=13:=by
 unfold useE
 split
 ·omega
 ·split
  ·split<;>omega
  ·omega
theorem useE_some {P:PM}{a k u:Int}(h:useE P a k u=0):(∃x,P a=some x)∧0≤k∧k<8:=by
 unfold useE at h
 split at h
 ·omega
 ·rename_i x hx
  split at h
  ·rename_i hk;exact ⟨⟨x,hx⟩,hk⟩
  ·omega
theorem useE_one {P:PM}{a k:Int}{x:Int×Int}(hP:P a=some x) (hk:0≤k∧k<8) (u:Int):useE P a k u=0∨useE P a k u=13:=by
 unfold useE
 rw [hP]
 simp only [if_pos hk]
 split<;>omega
theorem StR.word {n:Nat}{P P':PM}{f:Int→Nat}{D D':Nat→Nat→Int}(h:StR n P f D a k v 0 P' D') (hok:∀a,frm P a=-1∨0≤frm P a):(useE P' a k 1=0∨useE P' a k 1=13)∧(useE P' a k 1=0→loadV P' D' a k=v):=by
 rcases h with ⟨h1,h2,_⟩|⟨h1,h2,h3,_,rfl,rfl⟩|⟨_,_,_,h4,_⟩|⟨h1,h2,x,hx,h3,_,rfl,rfl⟩
 ·exact absurd h2.symm h1
 ·obtain ⟨⟨y,hy⟩,hk⟩:=useE_some h1
  refine ⟨useE_one hy hk 1,fun hu=>?_⟩
  unfold loadV wd
  rw [if_pos hu,if_neg h2]
  unfold upd
  rw [if_pos ⟨rfl,rfl⟩]
 ·omega
 ·obtain ⟨⟨y,hy⟩,hk⟩:=useE_some h1
  have hp:putP P a ((pg P a).1,(x:Int)) a=some ((pg P a).1,(x:Int)):=if_pos rfl
  refine ⟨useE_one hp hk 1,fun hu=>?_⟩
  have hf:frm (putP P a ((pg P a).1,(x:Int))) a=(x:Int):=by unfold frm;rw [hp]
  unfold loadV wd
  rw [if_pos hu,hf,if_neg (by omega)]
  unfold upd
  rw [if_pos ⟨by omega,rfl⟩]
theorem StR.full {n:Nat}{P P':PM}{f:Int→Nat}{D D':Nat→Nat→Int}(h:StR n P f D a k v 12 P' D'):useE P a k 2=0∧used (fun x=>sh P x+f x) n=n:=by
 rcases h with ⟨h1,h2,_⟩|⟨_,_,_,h4,_⟩|⟨h1,_,h3,_⟩|⟨_,_,_,_,_,h4,_⟩
 ·have:=useE_vals P a k 2;omega
 ·omega
 ·exact ⟨h1,h3⟩
 ·omega
theorem StR.err {n:Nat}{P P':PM}{f:Int→Nat}{D D':Nat→Nat→Int}{er:Int}(h:StR n P f D a k v er P' D'):er≠10∧(useE P a k 2=0→er=0∨er=12):=by
 rcases h with ⟨h1,h2,_⟩|⟨_,_,_,h4,_⟩|⟨h1,_,h3,h4,_⟩|⟨_,_,_,_,_,h4,_⟩
 ·have:=useE_vals P a k 2
  exact ⟨by omega,fun e=>absurd e h1⟩
 ·exact ⟨by omega,fun _=>.inl h4⟩
 ·exact ⟨by omega,fun _=>.inr h4⟩
 ·exact ⟨by omega,fun _=>.inl h4⟩
structure GoK (S:KS) (p a k v:Int) (went:List Int) (er:Int) (S':KS):Prop where
 who:∀x∈went,x≠1∧(∃ox,S.O x=some ox∧0<resP (msJ S ox.j))∧stJ S'.P x=2
 st:∀x,stJ S.P x=2→stJ S'.P x=2
 nd:went.Nodup
 full:went≠[]→used (totM S.Ms) S.n=S.n
 done:er=0→∃o,S'.O p=some o∧(useE (msJ S' o.j) a k 1=0∨useE (msJ S' o.j) a k 1=13)∧(useE (msJ S' o.j) a k 1=0→loadV (msJ S' o.j) S'.W a k=v)
 self:er=10→∃r,went=r ++ [p]∧stJ S'.P p=2
 nobody:er=12→used (totM S'.Ms) S'.n=S'.n∧stJ S'.P p=1
 use:(∃o,S.O p=some o∧useE (msJ S o.j) a k 2=0)→er=0∨er=10∨er=12
 other:er≠0→er≠10→er≠12→went=[]
theorem stJ_runs {P:Ps}{x:Int}(h:runsJ P x=true):stJ P x=1:=by
 unfold runsJ at h;exact of_decide_eq_true h
theorem st_end (kk:KOk S) {x:Int}{ox:Ow}(hx:S.O x=some ox) (c:Int):stJ (endKS S x ox c).P x=2:=by
 show stJ (exitP S.P x c) x=2
 have hr:runsJ S.P x=true:=by rw [←kk.run x,hx];rfl
 obtain ⟨q,hq,_⟩:=runsJ_iff.1 hr
 rw [exitP_st,if_pos ⟨rfl,by rw [hq];rfl⟩]
theorem st_end2 {x y:Int}{ox:Ow}(c:Int) (h:stJ S.P y=2):stJ (endKS S x ox c).P y=2:=by
 show stJ (exitP S.P x c) y=2
 rw [exitP_st]
 split
 ·rfl
 ·exact h
theorem StoreK.go {went:List Int}{er:Int}(r:StoreK p a k v S went er S') (l:Lie S) (kk:KOk S) (hF:∀x o,S.O x=some o→∀a,frm (msJ S o.j) a=-1∨0≤frm (msJ S o.j) a):GoK S p a k v went er S':=by
 induction r with
 | @done S o er P' D' ho h h12=>
  have hj:=l.lt _ _ ho
  refine ⟨fun x hx=>(by cases hx),fun x hx=>hx,List.nodup_nil,fun h=>absurd rfl h,fun he=>⟨o,ho,?_⟩,fun he=>absurd he h.err.1,fun he=>absurd he h12,fun ⟨o2,ho2,hu⟩=>?_,fun _ _ _=>rfl⟩
  ·rw [ms_space (by rw [l.len];exact hj),if_pos rfl]
   subst he
   exact h.word (hF _ o ho)
  ·rw [ho] at ho2
   obtain rfl:=Option.some.inj ho2
   rcases h.err.2 hu with e|e
   ·exact .inl e
   ·exact .inr (.inr e)
 | @nobody S o ho h hv=>
  have hj:=l.lt _ _ ho
  refine ⟨fun x hx=>(by cases hx),fun x hx=>hx,List.nodup_nil,fun h=>absurd rfl h,fun he=>by omega,fun he=>by omega,fun _=>⟨?_,stJ_runs (by rw [←kk.run p,ho];rfl)⟩,fun _=>.inr (.inr rfl),fun _ _ h=>absurd rfl h⟩
  have:=h.full.2
  rw [tot_split (by rw [l.len];exact hj)] at this
  exact this
 | @self S o ho h hv he=>
  have hj:=l.lt _ _ ho
  have hv2:=vic_cand hv
  rw [he] at hv2
  have hd:=st_end kk ho 108
  refine ⟨fun x hx=>?_,fun x hx=>st_end2 108 hx,by simp,fun _=>?_,fun he=>by omega,fun _=>⟨[],rfl,hd⟩,fun he=>by omega,fun _=>.inr (.inl rfl),fun _ h=>absurd rfl h⟩
  ·rw [List.mem_singleton.1 hx]
   exact ⟨hv2.1,hv2.2,hd⟩
  ·have:=h.full.2
   rw [tot_split (by rw [l.len];exact hj)] at this
   exact this
 | @goes S o x ox went er S' ho h hv he hx h1 hne r ih=>
  have hj:=l.lt _ _ ho
  have hjx:=l.lt _ _ hx
  have hv2:=vic_cand hv
  rw [he] at hv2
  have k1:KOk (endKS S x ox 108):=kk.ends hx hjx l.len (fun p' o' hp' e=>l.inj _ _ _ _ hp' hx e) 108
  have hm:=fun i=>ms_end (S:=S) (p:=x) (o:=ox) (by rw [l.len];exact hjx) 108 i
  have hF1:∀y o',(endKS S x ox 108).O y=some o'→∀a,frm (msJ (endKS S x ox 108) o'.j) a=-1∨0≤frm (msJ (endKS S x ox 108) o'.j) a:=fun y o' hy b=>by
   rw [hm]
   split
   ·exact .inl rfl
   ·exact hF y o' (O_end hy).2 b
  have i:=ih (l.ends 108) k1 hF1
  have hu:∃o,(endKS S x ox 108).O p=some o∧useE (msJ (endKS S x ox 108) o.j) a k 2=0:=by
   refine ⟨o,by rw [O_end_ne (Ne.symm hne)];exact ho,?_⟩
   rw [hm,if_neg (fun e=>hne (l.inj _ _ _ _ hx ho e.symm))]
   exact h.full.1
  refine ⟨fun y hy=>?_,fun y hy=>i.st y (st_end2 108 hy),List.nodup_cons.2 ⟨fun hy=>?_,i.nd⟩,fun _=>?_,i.done,fun e=>?_,i.nobody,fun _=>i.use hu,fun e1 e2 e3=>?_⟩
  ·rcases List.mem_cons.1 hy with rfl|hy
   ·exact ⟨h1,hv2.2,i.st _ (st_end kk hx 108)⟩
   ·obtain ⟨w1,⟨oy,w2,w3⟩,w4⟩:=i.who y hy
    refine ⟨w1,⟨oy,(O_end w2).2,?_⟩,w4⟩
    rw [hm] at w3
    split at w3
    ·rw [show resP noP=0 from resP_none] at w3;omega
    ·exact w3
  ·obtain ⟨_,⟨oy,w2,_⟩,_⟩:=i.who x hy
   rw [O_end_self] at w2
   cases w2
  ·have:=h.full.2
   rw [tot_split (by rw [l.len];exact hj)] at this
   exact this
  ·obtain ⟨r2,e2,e3⟩:=i.self e
   exact ⟨x :: r2,by rw [e2];rfl,e3⟩
  ·have:=i.use hu
   omega
end
end Go.Proofs.YtcfhanoekniaaaaGreatDoor
namespace Go.Proofs.YtcfhanoekniaaaaGreatDoor
open Go.RowKit Go.Maps
theorem orow_readG {w:World}{base:Nat}{T:TypeId}{v:Value}{n:Nat}{xs:List Value}(h:w.ownsRow base T 1 v n xs) (hp:0<n):∃g cap,v=.slice (some ⟨g,0,none⟩) n cap∧n≤cap∧g<w.heap.size∧∀j,j<n→w.cell? ⟨g,j,none⟩=xs[j]? := by
 rcases h.2 with ⟨_,h0⟩|⟨g,cap,cur,e,hN,hg,h1,h2,h3,h4⟩
 ·omega
 ·refine ⟨g,cap,e,h1,lt_of_heap hg,fun j hj=>?_⟩
  rw [cell_of_row w g j _ _ _ hg,←Array.getElem?_toList,←h4,Nat.mul_one,List.getElem?_take,if_pos hj]
def KCB (w0 w:World) (m:Int) (kb:Nat) (C:Kcs) (B:List Nat) (S:KS) (q:Nat):Prop:=
 ∃H A,(H.kb=kb∧H.ok=true)∧KN w m H S q A∧(∀i,A i→w0.heap.size≤i)∧Below w0.heap.size w0 w∧(∀y∈C,w.cell? ⟨y.1,y.2.1,none⟩=some y.2.2∧¬A y.1)∧∀b∈B,(b<w.heap.size∧¬A b)∧(w0.heap.size≤b∧b≠4∧b≠0∧b≠2)∧∀y∈C,y.1≠b
section
variable {w0 w w':World}{m:Int}{kb q:Nat}{C:Kcs}{B:List Nat}{S S':KS}{p a k v:Int}{o:Ow}
theorem KCB.kc (h:KCB w0 w m kb C B S q):KC w0 w m kb C S q:=by
 obtain ⟨H,A,e,k,hA,hb,hC,_⟩:=h
 exact ⟨H,A,e,k,hA,hb,hC⟩
theorem KCB.below (h:KCB w0 w m kb C B S q) (b:Below w.heap.size w w'):KCB w0 w' m kb C B S q:=by
 obtain ⟨H,A,e,k,hA,hb,hC,hB⟩:=h
 exact ⟨H,A,e,k.below b,hA,hb.trans (b.mono hb.size),fun y hy=>⟨by rw [b.cell (p:=⟨y.1,y.2.1,none⟩) (World.block_lt_of_cell? w _ (hC y hy).1)];exact (hC y hy).1,(hC y hy).2⟩,fun x hx=>⟨⟨Nat.lt_of_lt_of_le (hB x hx).1.1 b.size,(hB x hx).1.2⟩,(hB x hx).2⟩⟩
theorem KCB.lt (h:KCB w0 w m kb C B S q) {b:Nat}(hb:b∈B):b<w.heap.size:=by
 obtain ⟨H,A,e,k,hA,_,hC,hB⟩:=h
 exact (hB b hb).1.1
theorem KCB.grown (h:KCB w0 w m kb C B S q) {b:Nat}(hb:b∈B) (g:w.grownBy w' (some b)):KCB w0 w' m kb C B S q:=by
 obtain ⟨H,A,e,k,hA,hb0,hC,hB⟩:=h
 obtain ⟨⟨h1,h2⟩,⟨h3,h4⟩,h5⟩:=hB b hb
 refine ⟨H,A,e,⟨k.1.grownOut g (fun x hx=>by cases hx;exact ⟨h2,h4⟩),k.2⟩,hA,⟨g.os.trans hb0.os,g.tape.trans hb0.tape,g.output.trans hb0.output,Nat.le_trans hb0.size g.size,fun i hi=>(g.block i (Nat.lt_of_lt_of_le hi hb0.size) (fun z=>by cases z;omega)).trans (hb0.block i hi)⟩,fun y hy=>⟨?_,(hC y hy).2⟩,fun x hx=>⟨⟨Nat.lt_of_lt_of_le (hB x hx).1.1 g.size,(hB x hx).1.2⟩,(hB x hx).2⟩⟩
 rw [World.cell?_of_block (w:=w) (a:=⟨y.1,y.2.1,none⟩) (g.block y.1 (World.block_lt_of_cell? w _ (hC y hy).1) (fun z=>h5 y hy (Option.some.inj z)))]
 exact (hC y hy).1
theorem KC.toB (h:KC w0 w m kb C S q) (b:Below w.heap.size w w') {x:Nat}(h1:w.heap.size≤x) (h2:x<w'.heap.size):KCB w0 w' m kb C [x] S q:=by
 obtain ⟨H,A,e,k,hA,hb,hC⟩:=h
 have hg:4<w.heap.size∧0<w.heap.size∧2<w.heap.size:=by
  obtain ⟨G,g,_⟩:=k.1
  exact ⟨g.ml_lt,g.er_lt,g.zero_lt⟩
 refine ⟨H,A,e,k.below b,hA,hb.trans (b.mono hb.size),fun y hy=>⟨by rw [b.cell (p:=⟨y.1,y.2.1,none⟩) (World.block_lt_of_cell? w _ (hC y hy).1)];exact (hC y hy).1,(hC y hy).2⟩,fun z hz=>?_⟩
 rw [List.mem_singleton.1 hz]
 exact ⟨⟨h2,fun ha=>by have:=k.1.lt _ ha;omega⟩,⟨Nat.le_trans hb.size h1,by omega,by omega,by omega⟩,fun y hy=>by have:=World.block_lt_of_cell? w _ (hC y hy).1;simp only at this;omega⟩
def StoreO (w0 w:World) (m:Int) (kb:Nat) (C:Kcs) (B:List Nat) (S:KS) (q:Nat) (p a k v:Int) (y:Ending) (w':World):Prop:=
 ∃ad cap g er went S',y=.returned (.tuple #[.slice ad (List.length went) cap,uev er])∧GoK S p a k v went er S'∧KC w0 w' m kb (icells g went ++ C) S' q∧(0<went.length→ad=some ⟨g,0,none⟩)∧went.length≤cap∧went.length≤9223372036854775807∧∀b∈B,w'.heap[b]? = w.heap[b]?
theorem KCB.store (h:KCB w0 w m kb C B S q) (hq:q≤90) (hp:(Lit.int .i64 p).wf=true) (ha:(Lit.int .i64 a).wf=true) :
 Calls Tryz.prog 42 #[wp kb,.int .i64 p,.int .i64 a,.int .i64 k,.int .i64 v] w (StoreO w0 w m kb C B S q p a k v):=by
 have hkc:=h.kc
 obtain ⟨H,A,⟨e1,e2⟩,kn,hA,hb,hC,hB⟩:=h
 subst e1
 cases ho:S.O p with
 |none=>
  refine (kn.1.store_no ho hp a k v).mono ?_
  rintro y w' ⟨rfl,rfl⟩
  refine ⟨none,0,0,7,[],S,rfl,⟨fun x hx=>(by cases hx),fun x hx=>hx,List.nodup_nil,fun h=>absurd rfl h,fun h=>by omega,fun h=>by omega,fun h=>by omega,fun ⟨o,h,_⟩=>(by rw [ho] at h;cases h),fun _ _ _=>rfl⟩,hkc,fun h=>absurd h (by simp),Nat.le_refl _,by simp,fun _ _=>rfl⟩
 |some o=>
  refine (kn.store_yes ho (by omega) a k v ha).mono ?_
  rintro y w' ⟨vw,er,rfl,went,S',A',r,wn,k',st⟩
  have hF:∀x o,S.O x=some o→∀a,frm (msJ S o.j) a=-1∨0≤frm (msJ S o.j) a:=fun x o hx b=>by
   refine kn.1.vmr (kn.lie.lt x o hx) (fun E Av gc _ vs=>?_)
   rcases vs.ok.frame b with z|z
   ·exact .inl z
   ·exact .inr z.1
  have G:=r.go kn.lie kn.2 hF
  have kc:∀C',(∀y∈C',w'.cell? ⟨y.1,y.2.1,none⟩=some y.2.2∧¬A' y.1)→KC w0 w' m H.kb (C' ++ C) S' q:=fun C' hC'=>by
   refine ⟨H,A',⟨rfl,e2⟩,k',fun i hi=>?_,Stp.toBelow hb hA st,fun y hy=>?_⟩
   ·rcases st.own i hi with z|z
    ·exact hA i z
    ·exact Nat.le_trans hb.size z
   ·rcases List.mem_append.1 hy with z|z
    ·exact hC' y z
    ·exact st.cellKept (hC y z).1 (hC y z).2
  have hBk:∀b∈B,w'.heap[b]? = w.heap[b]? := fun b hb=>st.wt.block b (hB b hb).1.1 (hB b hb).1.2
  have hrow:=wn.row
  rcases hrow.2 with ⟨hvw,h0⟩|⟨g,cap,cur,hvw,_,hg,hn,hc,_⟩
  ·obtain rfl:=List.length_eq_zero_iff.1 h0
   rw [hvw]
   exact ⟨none,0,0,er,[],S',rfl,G,kc [] (fun y hy=>by cases hy),fun h=>absurd h (by simp),Nat.le_refl _,by simp,hBk⟩
  ·refine ⟨some ⟨g,0,none⟩,cap,g,er,went,S',by rw [hvw],G,kc _ fun y hy=>?_,fun _=>rfl,hn,by unfold maxLen at hc;omega,hBk⟩
   unfold icells at hy
   rw [List.mem_map] at hy
   obtain ⟨i,hi,rfl⟩:=hy
   have hi:=List.mem_range.1 hi
   obtain ⟨g2,cap2,hv2,_,_,hcl⟩:=orow_readG hrow (by omega)
   have e2:g2=g:=by
    rw [hvw] at hv2
    injection hv2 with h1
    injection h1 with h1
    injection h1 with h1
    exact h1.symm
   subst e2
   refine ⟨?_,wn.off g2 (by rw [hvw];rfl)⟩
   show w'.cell? ⟨g2,i,none⟩=_
   rw [hcl i hi,List.getElem?_map,List.getElem?_eq_getElem hi,List.getD_eq_getElem?_getD,List.getElem?_eq_getElem hi]
   rfl
end
theorem indexG_ok (w:World) (g cap:Nat) (L:List Int) (x:Int) (i:Nat) (hi:i<L.length) (hx:L[i]=x) (hnd:L.Nodup) (hl:L.length≤9223372036854775807) (hcap:L.length≤cap) (hc:∀j (hj:j<L.length),w.cell? ⟨g,j,none⟩=some (.int .i64 L[j])) :
 Calls Tryz.prog 43 #[.slice (some ⟨g,0,none⟩) L.length cap,.int .i64 x] w fun e w'=>e=.returned (.int .i64 (i:Int))∧w'=w:=by
 have hne:∀j (hj:j<L.length),j<i→L[j]≠x:=fun j hj h e=>by
  rw [←hx] at e
  have:=(List.getElem_inj hnd).1 e
  omega
 have HC:Aside (∀j (hj:j<L.length),w.cell? ⟨g,j,none⟩=some (.int .i64 L[j])):=hc
 have HN:Aside (∀j (hj:j<L.length),j<i→L[j]≠x):=hne
 have HX:Aside (L[i]=x):=hx
 clear hc hne hx hnd
 go_enter Tryz.func43,Tryz.ntmps43
 go_wp2_with fail
 go_loopg [5,8] L.length (fun gg _ s8 wr=>∃j:Nat,j≤i∧j+gg=L.length∧s8=.int .i64 j∧wr=w)
 case atStart=>exact ⟨0,Nat.zero_le _,by omega,rfl,rfl⟩
 case round=>
  obtain ⟨j,hj,hg,rfl,hw⟩:=hrel
  subst hw
  have hjL:j<L.length:=by omega
  have hltz:(j:Int)<(L.length:Int):=by omega
  have hjc:(j:Int)<(cap:Int):=by omega
  have cj:=HC.out j hjL
  by_cases he:j=i
  ·subst he
   rw [HX.out] at cj
   go_wp2_with fail
   go_ret
   exact ⟨rfl,rfl⟩
  ·have hn:=HN.out j hjL (by omega)
   have hnb:(x == L[j])=false:=by simpa using Ne.symm hn
   generalize L[j]=z at *
   clear hn
   go_wp2_with fail
   go_roundg (gk-1)
   case measure=>omega
   case rel=>exact ⟨j+1,by omega,by omega,by go_num,rfl⟩
end Go.Proofs.YtcfhanoekniaaaaGreatDoor
namespace Go.Proofs.YtcfhanoekniaaaaGreatDoor
open Go.RowKit Go.Maps
theorem goes_long (n:Int) (ad:Option Addr) (len cap:Nat) (q:Nat→CI) (pid at_ w9 v:Int) (w:World) (hsc:CScr w ad len q) (h:¬Short q len) :
 Calls Tryz.prog 10 #[.int .i64 n,.slice ad len cap,.int .i64 pid,.int .i64 at_,.int .i64 w9,.int .i64 v] w fun e w'=>e=.returned (.bool true)∧Below w.heap.size w w':=by
 have hC:=calls_no ad len cap q w hsc h
 clear hsc h
 go_enter Tryz.func10,Tryz.ntmps10
 go_wp2_with (go_at_call 31;refine hC.mono ?_;rintro e w1 ⟨rfl,hw1⟩;subst w1)
 go_ret
 exact ⟨rfl,Below.refl _ _⟩
def Resid (S:KS) (L:List Int) (j:Nat) (R:Int→Option Value):Prop:=∀x o,x∈L.take j→S.O x=some o→R x=some (.int .i64 ((resP (msJ S o.j):Nat):Int))
theorem Resid.zero (S:KS) (L:List Int) (R:Int→Option Value):Resid S L 0 R:=fun x o h=>by rw [List.take_zero] at h;cases h
theorem Resid.no {S:KS}{L:List Int}{j:Nat}{R:Int→Option Value}(h:Resid S L j R) (hj:j<L.length) (ho:S.O L[j]=none):Resid S L (j+1) R:=fun x o hx ho'=>by
 rw [List.take_succ_eq_append_getElem hj] at hx
 rcases List.mem_append.1 hx with z|z
 ·exact h x o z ho'
 ·rw [List.mem_singleton.1 z,ho] at ho';cases ho'
theorem Resid.put {S:KS}{L:List Int}{j:Nat}{R:Int→Option Value}(h:Resid S L j R) (hj:j<L.length) {o:Ow}(ho:S.O L[j]=some o):Resid S L (j+1) (fun x=>if x=L[j] then some (.int .i64 ((resP (msJ S o.j):Nat):Int)) else R x):=fun x o' hx ho'=>by
 by_cases e:x=L[j]
 ·show (if x=L[j] then _ else _)=_
  rw [if_pos e]
  rw [e,ho] at ho'
  rw [Option.some.inj ho']
 ·show (if x=L[j] then _ else _)=_
  rw [if_neg e]
  rw [List.take_succ_eq_append_getElem hj] at hx
  rcases List.mem_append.1 hx with z|z
  ·exact h x o' z ho'
  ·exact absurd (List.mem_singleton.1 z) e
structure GoW (S S':KS) (went:List Int) (R:Int→Option Value) (left:Nat):Prop where
 one:∀x∈went,(x == 1)=false
 dead:∀x∈went,stJ S'.P x=2
 res:∀x∈went,∃c:Nat,R x=some (.int .i64 (c:Int))∧1≤c
 nd:went.Nodup
 left:went≠[]→left=0
theorem goes_short (n:Int) (ad:Option Addr) (len cap:Nat) (q:Nat→CI) (pid at_ w9 v:Int) (w:World) (hsc:CScr w ad len q) (hS:Short q len) (m:Int) (hm:w.cell? ⟨4,0,none⟩=some (.int .i64 m)) (he:w.cell? ⟨0,0,none⟩=some errT) (ht:Tab64 w) :
 Calls Tryz.prog 10 #[.int .i64 n,.slice ad len cap,.int .i64 pid,.int .i64 at_,.int .i64 w9,.int .i64 v] w fun e w'=>e=.returned (.bool true)∧Below w.heap.size w w':=by
 have hC:=calls_yes ad len cap q w hsc hS
 have hl40:len≤40:=hS.1
 have hK:=kept_ok (ok:=true) w hm he ⟨ht.lt,fun _=>ht⟩
 obtain ⟨n8,hn8,hp1⟩:=talk_pick n 8 (by omega) (by omega)
 have hF:=fun V (b:Below w.heap.size w V)=>kc_new w V b (1+n8) (by omega) (by omega) hm he ht
 have hn9:((1+n8:Nat):Int)=1+(n8:Int):=by omega
 rw [hn9] at hF
 clear hn9
 have hmm:=@run_makeMap Tryz.prog
 clear hm he ht
 go_enter Tryz.func10,Tryz.ntmps10
 go_upto_region 8 with (first
  |(go_at_call 31;refine hC.mono ?_;rintro e w1 ⟨rfl,hw1⟩;subst w1)
  |(go_at_call 11;refine hK.mono ?_;rintro e w1 ⟨rfl,b1⟩;have c0:=hF _ b1)
  |(go_at_call 18;refine (hp1 _).mono ?_;rintro e w3 ⟨rfl,hw3⟩;subst w3)
  |(go_at_call 12;refine c0.mono ?_;rintro e w2 ⟨kb,rfl,k2⟩))
 clear c0 hF hK hC hp1 b1
 generalize firstS (1+n8)=S1 at *
 go_wp2_with fail
 go_loopg [15] len (fun g s15 wx=>∃(i:Nat) (S:KS),Aside (i+g=len)∧s15=.int .i64 (i:Int)∧KC w wx m kb [] S i)
 case atStart=>exact ⟨0,S1,(show 0+len=len by omega),rfl,k2⟩
 case round=>
  clear k2
  obtain ⟨i,S,HI,rfl,k⟩:=hrel
  have hb:=k.bel
  by_cases hlt:(i:Int)<(len:Int)
  ·rcases hsc.keep hb with h0|⟨blk,off,rfl,hbl,hss⟩
   ·exfalso;omega
   obtain ⟨⟨c0,c1,c2,c3,c4,c5,c6⟩,hok⟩:=hss i (by omega)
   have hsl:=hS.2 i (by omega)
   have hP:=k.call (by omega) (q i) hok hsl.1 hsl.2
   clear hss hok hsl hb
   generalize (q i).what=W at *
   generalize (q i).p=p at *
   generalize (q i).a=a at *
   generalize (q i).b=b at *
   generalize (q i).c=c at *
   generalize (q i).s=s at *
   generalize (q i).t=t at *
   go_wp2_with (go_at_call 33;refine hP.mono ?_;rintro e w5 ⟨er,S',rfl,hR,k5⟩)
   go_roundg (gk-1)
   case measure=>have:=HI.out;omega
   case rel=>exact ⟨i+1,S',(show i+1+(gk-1)=len by have:=HI.out;omega),by go_num,k5⟩
  ·have hi40:i≤40:=by have:=HI.out;omega
   have hPi:=k.pids
   have hL1:1≤(pidsJ S.P).length:=by
    obtain ⟨R,hR⟩:=pids_one k.jok
    rw [hR];simp
   have hL24:=k.len24
   clear hsc hS hb
   go_upto_region 13 with (go_at_call 34;refine hPi.mono ?_;rintro e w6 ⟨bp,cp,rfl,hcp,k6,b6⟩)
   have HM:Aside (∀j (hj:j<(pidsJ S.P).length),(bp,j,Value.int .i64 (pidsJ S.P)[j])∈icells bp (pidsJ S.P) ++ []):=fun j hj=>List.mem_append_left _ (icells_mem hj)
   have HW:Aside (∀x∈pidsJ S.P,(Lit.int .i64 x).wf=true):=fun x hx=>k6.wf hx
   have HR:Aside (∀x o,S.O x=some o→x∈pidsJ S.P):=fun x o ho=>by
    obtain ⟨H,A,kn⟩:=k6.kn
    have hr:runsJ S.P x=true:=by rw [←kn.2.run x,ho];rfl
    obtain ⟨r,hr,_⟩:=runsJ_iff.1 hr
    exact k6.jok.pids.2 (by rw [hr];rfl)
   clear hPi b6 k
   obtain ⟨r0,hr0,hp0⟩:=talk_pick pid (pidsJ S.P).length hL1 (by omega)
   generalize hC9:icells bp (pidsJ S.P) ++ []=C9 at *
   clear hC9
   generalize pidsJ S.P=L at *
   have cr:=k6.at (HM.out r0 hr0)
   have hwfr:=HW.out L[r0] (List.getElem_mem hr0)
   have hcr:(r0:Int)<(cp:Int):=by omega
   have hcr2:(r0:Int)<(L.length:Int):=by omega
   generalize L[r0]=P9 at *
   go_upto_region 14 with (go_at_call 18;refine (hp0 _).mono ?_;rintro e w3 ⟨rfl,hw3⟩;subst w3)
   clear cr hp0 hcr hcr2
   have pm:=PMap.made w6
   have bm:Below w6.heap.size w6 (w6.alloc (.map #[] 0)):=(Below.refl _ _).alloc (Nat.le_refl _) _
   have hsm:w6.heap.size<(w6.alloc (.map #[] 0)).heap.size:=by show _<(w6.heap.push _).size;rw [Array.size_push];omega
   have kB:=k6.toB bm (Nat.le_refl _) hsm
   go_upto_region 15 with fail
   generalize hgm:w6.heap.size=gm at *
   generalize w6.alloc (.map #[] 0)=wm at *
   clear bm hsm k6 hgm hmm
   go_wp2_with fail
   go_loopg [18,19,20,21,22] L.length (fun g s18 _ _ _ _ wx=>∃(j z:Nat) (R:Int→Option Value),Aside (j+g=L.length)∧s18=.int .i64 (j:Int)∧KCB w wx m kb C9 [gm] S i∧PMap wx gm z R∧Aside (z≤j)∧Aside (Resid S L j R))
   case atStart=>exact ⟨0,0,_,(show 0+L.length=L.length by omega),rfl,kB,pm,(show (0:Nat)≤0 by omega),Resid.zero _ _ _⟩
   case round=>
    clear kB pm
    obtain ⟨j,z,R,HJ,rfl,kB,pm,HZ,HRes⟩:=hrel
    by_cases hjl:(j:Int)<(L.length:Int)
    ·have hjL:j<L.length:=by omega
     have cj:=kB.kc.at (HM.out j hjL)
     have hwf:=HW.out L[j] (List.getElem_mem hjL)
     have hcj:(j:Int)<(cp:Int):=by omega
     have hgl:=kB.lt (List.mem_singleton.2 rfl)
     have hz:z<maxLen:=by have:=HZ.out;unfold maxLen;omega
     cases ho:S.O L[j] with
     |none=>
      have hH:=kB.kc.has_no ho hwf
      have hR2:Resid S L (j+1) R:=HRes.out.no hjL ho
      have HR2:Aside (Resid S L (j+1) R):=hR2
      clear ho hwf hR2
      generalize L[j]=p9 at *
      go_wp2_with (go_at_call 38;refine hH.mono ?_;rintro e w7 ⟨rfl,k7,b7⟩)
      go_roundg (gk-1)
      case measure=>have:=HJ.out;omega
      case rel=>exact ⟨j+1,z,R,(show j+1+(gk-1)=L.length by have:=HJ.out;omega),by go_num,kB.below b7,pm.keep (b7.block _ hgl),(show z≤j+1 by have:=HZ.out;omega),HR2⟩
     |some o=>
      have hH:=kB.kc.has_yes ho
      have HR2:Aside (Resid S L (j+1) (fun x=>if x=L[j] then some (.int .i64 ((resP (msJ S o.j):Nat):Int)) else R x)):=HRes.out.put hjL ho
      clear ho
      generalize L[j]=p9 at *
      generalize lenP (msJ S o.j)=A1 at *
      generalize resP (msJ S o.j)=A2 at *
      generalize usedN (tsJ S o.j)=A3 at *
      go_upto_region 20 with (go_at_call 38;refine hH.mono ?_;rintro e w7 ⟨rfl,k7,b7⟩)
      have pm7:=pm.keep (b7.block _ hgl)
      have kB7:=kB.below b7
      have cj7:w7.cell? ⟨bp,j,none⟩=some (.int .i64 p9):=by rw [b7.cell (p:=⟨bp,j,none⟩) (World.block_lt_of_cell? _ _ cj)];exact cj
      clear hH kB pm cj hgl b7 k7
      go_wp2_with (at_mapUpdate;refine wpList_kput rfl _ _ _ 83 rfl 3 Tryz.underlying83 gm z R rfl pm7 hz p9 rfl hwf (.int .i64 (A2:Int)) rfl ?_;intro w8 pm8 g8)
      go_roundg (gk-1)
      case measure=>have:=HJ.out;omega
      case rel=>exact ⟨j+1,_,_,(show j+1+(gk-1)=L.length by have:=HJ.out;omega),by go_num,kB7.grown (List.mem_singleton.2 rfl) g8,pm8,(by have:=HZ.out;show (if (R p9).isSome=true then z else z+1)≤j+1;split<;>omega),HR2⟩
    ·have hjE:j=L.length:=by have:=HJ.out;omega
     obtain ⟨r6,hr6,hp6⟩:=talk_pick at_ 6 (by omega) (by omega)
     obtain ⟨r8,hr8,hp8⟩:=talk_pick w9 8 (by omega) (by omega)
     have hLe:=kB.kc.left
     have hSt:=kB.store (p:=P9) (a:=(r6:Int)) (k:=(r8:Int)) (v:=v) (by omega) hwfr (wf64 (by omega))
     have hgl:=kB.lt (List.mem_singleton.2 rfl)
     have HRes2:Aside (∀x o,x∈L→S.O x=some o→R x=some (.int .i64 ((resP (msJ S o.j):Nat):Int))):=fun x o hx ho=>by
      refine HRes.out x o ?_ ho
      rw [hjE,List.take_length];exact hx
     have HLf:Aside (used (totM S.Ms) S.n=S.n→S.n-used (totM S.Ms) S.n=0):=fun h=>by omega
     generalize S.n-used (totM S.Ms) S.n=lf at *
     go_upto_region 24 with (first
      |(go_at_call 18;refine (hp8 _).mono ?_;rintro e w3 ⟨rfl,hw3⟩;subst w3)
      |(go_at_call 18;refine (hp6 _).mono ?_;rintro e w3 ⟨rfl,hw3⟩;subst w3)
      |(go_at_call 39;refine hLe.mono ?_;rintro e w3 ⟨rfl,hw3⟩;subst w3)
      |(go_at_call 42;refine hSt.mono ?_;rintro e w9' ⟨ad9,cap9,g9,er,went,S',rfl,hG,k9,hn9,hc9,hl9,hB9⟩))
     have pm9:=pm.keep (hB9 gm (List.mem_singleton.2 rfl))
     have GW:GoW S S' went R lf:=⟨fun x hx=>(by simpa using (hG.who x hx).1),fun x hx=>(hG.who x hx).2.2,fun x hx=>(by
      obtain ⟨ox,h1,h2⟩:=(hG.who x hx).2.1
      exact ⟨_,HRes2.out x ox (HR.out x ox h1) h1,h2⟩),hG.nd,fun h=>HLf.out (hG.full h)⟩
     have hgl9:gm<w9'.heap.size:=by
      rcases Nat.lt_or_ge gm w9'.heap.size with z9|z9
      ·exact z9
      ·have h9:=hB9 gm (List.mem_singleton.2 rfl)
       rw [Array.getElem?_eq_none (by omega),Array.getElem?_eq_getElem hgl] at h9
       cases h9
     have HW9:Aside (∀x∈went,(Lit.int .i64 x).wf=true):=fun x hx=>by
      obtain ⟨ox,h1,h2⟩:=(hG.who x hx).2.1
      exact HW.out x (HR.out x ox h1)
     have HG:Aside (GoK S P9 (r6:Int) (r8:Int) v went er S'):=hG
     have HGW:Aside (GoW S S' went R lf):=GW
     have HNN:Aside (0<went.length→ad9=some ⟨g9,0,none⟩):=hn9
     have HM9:Aside (∀y (hy:y<went.length),(g9,y,Value.int .i64 went[y])∈icells g9 went ++ C9):=fun y hy=>List.mem_append_left _ (icells_mem hy)
     generalize icells g9 went ++ C9=C10 at *
     clear hG GW hn9 hB9 kB pm HRes HRes2 HLf HR hSt hLe hp6 hp8 HM HJ HZ hgl
     go_wp2_with fail
     go_loopg [25,26] went.length (fun g s25 _ wx=>∃y:Nat,Aside (y+g=went.length)∧s25=.int .i64 (y:Int)∧KC w wx m kb C10 S' i∧PMap wx gm z R∧gm<wx.heap.size)
     case atStart=>exact ⟨0,(show 0+went.length=went.length by omega),rfl,k9,pm9,hgl9⟩
     case round=>
      clear k9 pm9 hgl9
      obtain ⟨y,HY,rfl,k9,pm9,hgl9⟩:=hrel
      by_cases hyl:(y:Int)<(went.length:Int)
      ·have hyL:y<went.length:=by omega
       obtain rfl:=HNN.out (by omega)
       have hmem:went[y]∈went:=List.getElem_mem hyL
       have cy:=k9.at (HM9.out y hyL)
       have hwf:=HW9.out _ hmem
       have x1:=HGW.out.one _ hmem
       have hSx:=k9.state went[y] hwf
       rw [HGW.out.dead _ hmem] at hSx
       obtain ⟨c,hc,hc1⟩:=HGW.out.res _ hmem
       have hlf:=HGW.out.left (fun e=>by rw [e] at hyL;exact absurd hyL (by simp))
       subst hlf
       have hI:=fun V (kV:KC w V m kb C10 S' i)=>indexG_ok V g9 cap9 went went[y] y hyL rfl HGW.out.nd hl9 hc9 (fun x hx=>kV.at (HM9.out x hx))
       have hc2:¬(c:Int)<1:=by omega
       have hcy:(y:Int)<(cap9:Int):=by omega
       have hlk:=fun V (pV:PMap V gm z R)=>pV.look Tryz.underlying83 (zero_num V) went[y] hwf
       rw [hc] at hlk
       clear hmem hc hc1
       generalize went[y]=x9 at *
       go_wp2_with (first
        |(go_at_call 35;refine hSx.mono ?_;rintro e wa ⟨rfl,ka,ba⟩;have pa:=pm9.keep (ba.block _ hgl9);have hla:=hlk _ pa;simp only [Option.getD_some] at hla;have hIa:=hI _ ka)
        |(go_at_call 43;refine hIa.mono ?_;rintro e wb ⟨rfl,hwb⟩;subst wb))
       go_roundg (gk-1)
       case measure=>have:=HY.out;omega
       case rel=>exact ⟨y+1,(show y+1+(gk-1)=went.length by have:=HY.out;omega),by go_num,ka,pa,Nat.lt_of_lt_of_le hgl9 ba.size⟩
      ·have hT:=tell_err er wr k9.er
       have hb:=k9.bel
       clear HY pm9 hgl9
       go_upto_region 31 with (go_at_call 17;refine hT.mono ?_;rintro e wa ⟨rfl,ba⟩)
       have ka:=k9.below ba
       have hbA:=ka.bel
       clear hT k9 ba hb
       by_cases h0:er=0
       ·subst h0
        as_aux_lemma=>
         obtain ⟨o,ho,hu,hv⟩:=HG.out.done rfl
         have hL:=ka.load ho (r6:Int) (r8:Int) (wf64 (by omega))
         rcases hu with hu|hu
         ·rw [hu,uev_zero,hv hu] at hL
          clear HG HGW hu hv ho
          go_wp2_with (go_at_call 44;refine hL.mono ?_;rintro e wc ⟨rfl,bc⟩)
          go_ret
          exact ⟨rfl,hbA.trans (bc.mono hbA.size)⟩
         ·rw [hu,uev_ne (by omega)] at hL
          generalize loadV (msJ S' o.j) S'.W (r6:Int) (r8:Int)=vv at *
          have hT2:=fun V (hg:V.cell? ⟨0,0,none⟩=some errT)=>tell_err 13 V hg
          simp only [uev_ne (show (13:Int)≠0 by omega)] at hT2
          clear HG HGW hu hv ho
          go_wp2_with (first
           |(go_at_call 44;refine hL.mono ?_;rintro e wc ⟨rfl,bc⟩)
           |(go_at_call 17;refine (hT2 _ (ka.below bc).er).mono ?_;rintro e wd9 ⟨rfl,bd⟩))
          go_ret
          exact ⟨rfl,(hbA.trans (bc.mono hbA.size)).trans (bd.mono (Nat.le_trans hbA.size bc.size))⟩
       ·have h0b:(er == 0)=false:=by simpa using h0
        by_cases h1:er=10
        ·subst h1
         as_aux_lemma=>
          obtain ⟨r,hr,hd⟩:=HG.out.self rfl
          have hlr:went.length=r.length+1:=by rw [hr];simp
          have hge:went[r.length]'(by omega)=P9:=by simp [hr]
          have hSx:=ka.state P9 hwfr
          rw [hd] at hSx
          obtain rfl:=HNN.out (by omega)
          have cy:=ka.at (HM9.out r.length (by omega))
          rw [hge] at cy
          have hpos:(0:Int)<((r.length+1:Nat):Int):=by omega
          have hwr:wrap64 (((r.length+1:Nat):Int)-1)=(r.length:Int):=by unfold wrap64;omega
          have hcr:(r.length:Int)<(cap9:Int):=by omega
          have hcr2:(r.length:Int)<((r.length+1:Nat):Int):=by omega
          rw [hlr] at *
          clear HG HGW hr hge hd HW9 HM9 HNN
          generalize r.length=rl at *
          go_wp2_with (go_at_call 35;refine hSx.mono ?_;rintro e wc ⟨rfl,kc,bc⟩)
          go_ret
          exact ⟨rfl,kc.bel⟩
        ·have h1b:(er == 10)=false:=by simpa using h1
         by_cases h2:er=12
         ·subst h2
          as_aux_lemma=>
           obtain ⟨hf,hd⟩:=HG.out.nobody rfl
           have hLe:=ka.left
           rw [hf,Nat.sub_self] at hLe
           have hSx:=ka.state P9 hwfr
           rw [hd] at hSx
           clear HG HGW hf hd
           go_wp2_with (first
            |(go_at_call 39;refine hLe.mono ?_;rintro e w3 ⟨rfl,hw3⟩;subst w3)
            |(go_at_call 35;refine hSx.mono ?_;rintro e wc ⟨rfl,kc,bc⟩))
           go_ret
           exact ⟨rfl,kc.bel⟩
         ·have h2b:(er == 12)=false:=by simpa using h2
          have hw0:=HG.out.other h0 h1 h2
          subst hw0
          as_aux_lemma=>
           clear HG HGW
           go_wp2_with fail
           go_ret
           exact ⟨rfl,hbA⟩
end Go.Proofs.YtcfhanoekniaaaaGreatDoor

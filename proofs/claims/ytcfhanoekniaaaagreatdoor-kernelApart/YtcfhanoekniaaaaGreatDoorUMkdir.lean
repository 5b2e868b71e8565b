/- Package tree: Unlink that takes a name away, by its Go text. -/
import Derived.Test.YtcfhanoekniaaaaGreatDoorUUnlink
import Derived.Lib.BufferRead
import Derived.Laws.IdiomCopy
import Derived.Laws.MakeOwn
set_option maxHeartbeats 4000000
set_option maxRecDepth 100000
namespace Go.Proofs.YtcfhanoekniaaaaGreatDoor
open Go.RowKit Go.Maps
theorem BQ {T:Wd}(hT:TrOk T) {p:List UInt8}(h:dZ T p=0):(ae T p).2.2=0∧isName (ae T p).2.1=true∧∃C n,T (ae T p).1=some (.dir C)∧C.lookup (ae T p).2.1=some n∧nN T n=0:=by
 unfold dZ at h
 by_cases hz:(ae T p).2.2=0
 ·rw [if_neg (fun e=>e hz)] at h
  obtain ⟨⟨C,hd⟩,hnm⟩:=dP hT hz
  rw [dK hd] at h
  cases hl:C.lookup (ae T p).2.1 with
  |none=>rw [hl] at h;simp at h
  |some n=>
   rw [hl] at h
   simp only at h
   refine ⟨hz,hnm,C,n,hd,hl,?_⟩
   by_cases hm:nN T n=0
   ·exact hm
   ·rw [if_pos hm] at h;omega
 ·rw [if_pos hz] at h;exact absurd h hz
section
variable {w w':World}{r gN s:Nat}{T:Wd}{Z:Int→Nat}{B G:Int→Nat}{V:Int→Value}{O:Nat→Prop}
theorem PT.qD (h:PT w r T O) (hT:bq T) (p:List UInt8) (hp:p.length<100000) (m:Int) (hm:w.cell? ⟨4,0,none⟩=some (.int .i64 m)) (hC:∀k C,T k=some (.dir C)→C.length≤1000) (hE:dZ T p=0) :
 Calls Tryz.prog 269 #[wp r,tx p] w fun e w'=>e=.returned .nilIface∧PT w' r (dY T p) O∧Stp w w' O O:=by
 obtain ⟨gN,s,B,G,V,h⟩:=h
 have hs1:=h.num.pos hT.toTrOk
 obtain ⟨hz,hnm,C,n,hd,hl,hmz⟩:=BQ hT.toTrOk hE
 have hU:dY T p=gL (aW T (ae T p).1 (ae T p).2.1):=by unfold dY;rw [if_neg (fun e=>e hE)]
 have Co:=h.nz hT.toTrOk hs1 p hp m hm hz (n:=n) (by rw [dK hd];exact hl)
 obtain ⟨hnd,hn0,hc1,hdn,ht⟩:=uF hT hd hl hmz
 have hcd:=BF hT.toTrOk hd hl
 have hsome:=hT.child _ C _ n hd hl
 obtain ⟨nd,hn⟩:∃nd,T n=some nd:=by
  cases e:T n with
  |none=>rw [e] at hsome;cases hsome
  |some nd=>exact ⟨nd,rfl⟩
 obtain ⟨hsw,_⟩:=ht nd hn
 rw [hU,hsw]
 have hkey:=hT.key n hsome
 have hwf:(Lit.int .i64 n).wf=true:=gW hkey.1 (by omega)
 have hcb:=zS hC n
 have hcn:=hcd n
 rw [if_pos rfl] at hcn
 have hnl:=dQ hnm
 clear hU hz hE hsw ht
 generalize (ae T p).1=d at *
 generalize (ae T p).2.1=nm at *
 have mY:=hT.toTrOk
 -- what lies behind the place's box
 have hstep:∀w1,Below w.heap.size w w1→Calls Tryz.prog 311 #[qU (some (G d)) nm] w1 fun e w'=>(∃v,e=.returned v)∧dw w' r gN s (aW T d nm) (aI T) B G V O∧Stp w w' O O:=fun w1 b1=>by
  have h1:=h.below b1
  refine (CR (h1.jS d C hd) nm (by omega) (by simp only [hl,Option.map_some,Option.isSome_some])).mono ?_
  rintro e w2 ⟨hv,sm,g2⟩
  exact ⟨hv,h1.del mY hd (by rw [hl];rfl) g2 sm,(Stp.below b1).trans (.grown g2 (h1.lI d C hd))⟩
 have hZ:∀k,(aW T d nm k).isSome=true→(if k=n then aI (aW T d nm) n else aI T k)=aI (aW T d nm) k:=fun k _=>by
  by_cases e:k=n
  ·rw [if_pos e,e]
  ·rw [if_neg e];have:=hcd k;rw [if_neg e] at this;omega
 have hset:∀w2,dw w2 r gN s (aW T d nm) (aI T) B G V O→Calls Tryz.prog 312 #[wp r,.int .i64 n] (w2.setCell ⟨B n,2,none⟩ (.int .i64 (aI (aW T d nm) n:Int))) fun e w'=>(∃v,e=.returned v)∧PT w' r (if aI (aW T d nm) n=0∧dF nd=0 then nR (aW T d nm) n else aW T d nm) O∧Stp (w2.setCell ⟨B n,2,none⟩ (.int .i64 (aI (aW T d nm) n:Int))) w' O O:=fun w2 h2=>by
  exact (h2.count (k:=n) (nd:=nd) (by rw [hdn];exact hn) (aI (aW T d nm) n)).xC n hwf (by rw [hdn];exact hn) hc1 hZ
 have hnc:∀w2,dw w2 r gN s (aW T d nm) (aI T) B G V O→w2.cell? ⟨B n,2,none⟩=some (.int .i64 (aI T n:Int))∧w2.frozen? ⟨B n,2,none⟩=false∧O (B n):=fun w2 h2=>⟨(h2.GL (k:=n) (nd:=nd) (by rw [hdn];exact hn)).1,h2.pq (k:=n) (nd:=nd) (by rw [hdn];exact hn) 2,h2.ownB n (by rw [hdn,hn];rfl)⟩
 have hsub:(aI T n:Int)-1=(aI (aW T d nm) n:Int):=by omega
 have hwr:wrap64 ((aI T n:Int)-1)=(aI (aW T d nm) n:Int):=by rw [hsub];unfold wrap64;omega
 generalize (if aI (aW T d nm) n=0∧dF nd=0 then nR (aW T d nm) n else aW T d nm)=TT at *
 have hlen:∀w1,Below w.heap.size w w1→(∃b x,nd=.file b x∧w1.cell? ⟨B n,0,none⟩=some (.map none))∨∃D,nd=.dir D∧w1.cell? ⟨B n,0,none⟩=some (.map (some (G n)))∧SMap w1 (G n) 0 (fun i=>(D.lookup i).map (.int .i64 ·)):=fun w1 b1=>by
  have h1:=h.below b1
  cases nd with
  |file b x=>exact .inl ⟨b,x,rfl,(h1.pY hn).1⟩
  |dir D=>
   have h0:D.length=0:=by unfold nN at hmz;rw [hn] at hmz;exact hmz
   have:=h1.jS n D hn
   rw [h0] at this
   exact .inr ⟨D,rfl,(h1.yN hn).1,this⟩
 have GV:∀w1,Below w.heap.size w w1→(Instr.lookup 204 (.map (some gN)) (.int .i64 n) false).run Tryz.prog w1=.ok (wp (B n)) w1∧w1.cell? ⟨r,0,none⟩=some (.map (some gN)):=fun w1 b1=>by
  have h1:=h.below b1
  have:=h1.look n hwf
  rw [hn] at this
  simp only [Option.isSome_some,if_true] at this
  exact ⟨this,h1.c0⟩
 generalize (aI T n:Int)=ct at *
 generalize (aI (aW T d nm) n:Int)=cd at *
 clear hcd hcb hcn hc1 hZ hl hmz hsome hdn mY hT h hC hm hsub
 go_enter Tryz.func269,Tryz.ntmps269
 go_upto_region 2 with (go_at_call 310;refine Co.mono ?_;rintro e w1 ⟨rfl,b1⟩)
 have bA:Below w.heap.size w (w1.alloc (.cells #[.map (some (G d)),tx nm] 408)):=b1.alloc b1.size _
 obtain ⟨hlk,c0⟩:=GV _ bA
 have hU:=hstep _ bA
 rcases hlen _ bA with ⟨b,x,_,z0⟩|⟨D,_,z0,Cq⟩
 ·have hl0:=Kh
  go_wp2_with
   (first
     |(go_at_call 311;refine hU.mono ?_;rintro e w2 ⟨⟨v,rfl⟩,h2,st2⟩;obtain ⟨y2,yf,yo⟩:=hnc w2 h2;have hS:=hset w2 h2)
     |(go_at_call 312;refine hS.mono ?_;rintro e w3 ⟨⟨v3,rfl⟩,h3,vI⟩))
  go_ret
  exact ⟨rfl,h3,(st2.trans (.cell _ yo)).trans vI⟩
 ·go_wp2_with
   (first
     |(go_at_call 311;refine hU.mono ?_;rintro e w2 ⟨⟨v,rfl⟩,h2,st2⟩;obtain ⟨y2,yf,yo⟩:=hnc w2 h2;have hS:=hset w2 h2)
     |(go_at_call 312;refine hS.mono ?_;rintro e w3 ⟨⟨v3,rfl⟩,h3,vI⟩)
     |(refine uD rfl _ 262 rfl 3 Tryz.underlying262 (G n) _ _ rfl Cq ?_))
  go_ret
  exact ⟨rfl,h3,(st2.trans (.cell _ yo)).trans vI⟩
theorem PT.Ju (h:PT w r T O) (hT:bq T) (p:List UInt8) (hp:p.length<100000) (m:Int) (hm:w.cell? ⟨4,0,none⟩=some (.int .i64 m)) (hC:∀k C,T k=some (.dir C)→C.length≤1000) :
 Calls Tryz.prog 269 #[wp r,tx p] w fun e w'=>e=.returned (aH (dZ T p))∧PT w' r (dY T p) O∧Stp w w' O O:=by
 by_cases hE:dZ T p=0
 ·rw [hE,aC]
  exact h.qD hT p hp m hm hC hE
 ·rw [az hE,show dY T p=T by unfold dY;rw [if_pos hE]]
  refine (h.tJ hT p hp m hm hE).mono ?_
  rintro e w' ⟨rfl,b⟩
  exact ⟨rfl,h.below b,.below b⟩
end
theorem xV {T:Wd}{n:Int}(hs:(T n).isSome=true) (h:¬qA T n=true):∃b x,T n=some (.file b x):=by
 unfold qA at h
 cases e:T n with
 |none=>rw [e] at hs;cases hs
 |some nd=>cases nd with
  |dir C=>rw [e] at h;exact absurd rfl h
  |file b x=>exact ⟨b,x,rfl⟩
theorem Kq {T:Wd}{n:Int}(h:qA T n=true):∃C,T n=some (.dir C):=by
 unfold qA at h
 cases e:T n with
 |none=>rw [e] at h;cases h
 |some nd=>cases nd with
  |dir C=>exact ⟨C,rfl⟩
  |file b x=>rw [e] at h;cases h
section
variable {T:Wd}
theorem xO (hT:TrOk T) {p q:List UInt8}(h:nO T p q=0):(aO T p).2=0∧(∃b x,T (aO T p).1=some (.file b x))∧(ae T q).2.2=0∧isName (ae T q).2.1=true∧∃C,T (ae T q).1=some (.dir C)∧C.lookup (ae T q).2.1=none:=by
 unfold nO at h
 by_cases hf:(aO T p).2=0
 ·rw [if_neg (fun e=>e hf)] at h
  by_cases hdr:qA T (aO T p).1=true
  ·rw [if_pos hdr] at h;omega
  ·rw [if_neg hdr] at h
   by_cases hz:(ae T q).2.2=0
   ·rw [if_neg (fun e=>e hz)] at h
    obtain ⟨⟨C,hd⟩,hnm⟩:=dP hT hz
    rw [dK hd] at h
    refine ⟨hf,xV (nH hT hf) hdr,hz,hnm,C,hd,?_⟩
    cases hl:C.lookup (ae T q).2.1 with
    |none=>rfl
    |some n=>rw [hl] at h;simp at h
   ·rw [if_pos hz] at h;exact absurd h hz
 ·rw [if_pos hf] at h;exact absurd h hf
theorem bq.add (hT:bq T) {d n:Int}{nm:Nm}{C:List (Nm×Int)}(hd:T d=some (.dir C)) (hl:C.lookup nm=none) (hnm:isName nm=true) (hn:(T n).isSome=true) (h0:n≠0):bq (fI T d nm n):=
 { toTrOk:=hT.toTrOk.add hd hl hnm hn
   nr:=by rw [oK hT.toTrOk hd,if_neg (Ne.symm h0)];exact hT.nr
   lv:=fun k nd e=>by
    rw [oK hT.toTrOk hd]
    rw [jf hd] at e
    by_cases e1:k=d
    ·subst e1
     rw [ak] at e;cases e
     rcases hT.lv k _ hd with e2|e2|e2
     ·exact .inl e2
     ·exact .inr (.inl (by omega))
     ·exact absurd rfl e2
    ·rw [ag _ e1] at e
     rcases hT.lv k nd e with e2|e2|e2
     ·exact .inl e2
     ·exact .inr (.inl (by omega))
     ·exact .inr (.inr e2) }
theorem bq.link (hT:bq T) (p q:List UInt8):bq (lS T p q):=by
 unfold lS
 by_cases hE:nO T p q=0
 ·rw [if_neg (fun e=>e hE)]
  obtain ⟨_,⟨b,x,hn⟩,_,hnm,C,hd,hl⟩:=xO hT.toTrOk hE
  exact hT.add hd hl hnm (by rw [hn];rfl) (Bu hT.toTrOk hn)
 ·rw [if_pos hE];exact hT
end
section
variable {w w':World}{r gN s:Nat}{T:Wd}{Z:Int→Nat}{B G:Int→Nat}{V:Int→Value}{O:Nat→Prop}
theorem dw.new (h:dw w r gN s T Z B G V O) {k:Int}{b g z:Nat}{nd:Nd}(hk:T k=none) (hg:w.grownBy w' (some gN)) (pm:aF w' gN (s+1) (fun i=>if i=k then some (wp b) else (T i).map (fun _=>wp (B i))))
 (Tp:w.heap[b]? = some (.cells (dG (fun _=>g) (fun _=>.slice none 0 0) (fun _=>z) k nd) 337)) (TL:¬O b) (hnd:(nd=.dir []∧SMap w g 0 (fun _=>none)∧¬O g)∨nd=.file [] 0) :
 dw w' r gN (s+1) (bN T k nd) (fun i=>if i=k then z else Z i) (fun i=>if i=k then b else B i) (fun i=>if i=k then g else G i) (fun i=>if i=k then .slice none 0 0 else V i) (fun i=>O i∨i=b∨(i=g∧nd=.dir [])):=by
 obtain ⟨es,cl,hm⟩:=h.map.isMap
 have hkp:∀i,i<w.heap.size→i≠gN→w'.heap[i]? = w.heap[i]? := fun i hi hne=>hg.block i hi (fun e=>hne (Option.some.inj e))
 have hbl:b<w.heap.size:=(Array.getElem?_eq_some_iff.1 Tp).1
 have hbN:b≠gN:=fun e=>TL (by rw [e];exact h.ql)
 have hne:∀i kK,T i=some kK→i≠k:=fun i kK e e1=>by rw [e1,hk] at e;cases e
 have hold:∀i kK,bN T k nd i=some kK→(i=k∧kK=nd)∨(i≠k∧T i=some kK):=fun i kK e=>by
  by_cases e1:i=k
  ·subst e1;rw [ak] at e;cases e;exact .inl ⟨rfl,rfl⟩
  ·rw [ag _ e1] at e;exact .inr ⟨e1,e⟩
 have hsm:∀i,(bN T k nd i).isSome=true→i=k∨(i≠k∧(T i).isSome=true):=fun i e=>by
  by_cases e1:i=k
  ·exact .inl e1
  ·rw [ag _ e1] at e;exact .inr ⟨e1,e⟩
 refine ⟨(hkp r (h.lt _ h.vM) (fun e=>by rw [←e,h.head] at hm;cases hm)).trans h.head,?_,fun i kK e=>?_,fun i C e=>?_,fun i c x e=>?_,fun i C e=>?_,fun i i' C C' e e' hG=>?_,fun i i' e e' hB=>?_,.inl h.vM,.inl h.ql,fun i e=>?_,fun i C e=>?_,fun i c x j e hj=>?_,fun i hi=>?_⟩
 ·have e:(fun i=>if i=k then some (wp b) else (T i).map (fun _=>wp (B i)))=fun i=>(bN T k nd i).map (fun _=>wp (if i=k then b else B i)):=by
   funext i
   by_cases e1:i=k
   ·subst e1;rw [ak,if_pos rfl];simp
   ·rw [ag _ e1,if_neg e1];simp [e1]
  rw [e] at pm
  exact pm
 ·rcases hold i kK e with ⟨rfl,rfl⟩|⟨e1,e⟩
  ·simp only [if_true]
   have e2:dG (fun j=>if j=i then g else G j) (fun j=>if j=i then .slice none 0 0 else V j) (fun j=>if j=i then z else Z j) i kK=dG (fun _=>g) (fun _=>.slice none 0 0) (fun _=>z) i kK:=by cases kK<;>simp [dG]
   rw [e2]
   exact (hkp b hbl hbN).trans Tp
  ·simp only [if_neg e1]
   have e2:dG (fun j=>if j=k then g else G j) (fun j=>if j=k then .slice none 0 0 else V j) (fun j=>if j=k then z else Z j) i kK=dG G V Z i kK:=by cases kK<;>simp [dG,e1]
   rw [e2]
   exact (hkp _ (h.lt _ (h.ownB i (by rw [e];rfl))) (fun e3=>by rw [←e3,h.node i kK e] at hm;cases hm)).trans (h.node i kK e)
 ·rcases hold i _ e with ⟨rfl,e9⟩|⟨e1,e⟩
  ·simp only [if_true]
   rcases hnd with ⟨e8,hS,TK⟩|e8
   ·rw [e8] at e9;cases e9
    exact hS.keep (hkp g hS.lt (fun e7=>TK (by rw [e7];exact h.ql)))
   ·rw [e8] at e9;cases e9
  ·simp only [if_neg e1]
   exact (h.jS i C e).keep (hkp _ (h.jS i C e).lt (h.sep i C e))
 ·rcases hold i _ e with ⟨rfl,e9⟩|⟨e1,e⟩
  ·simp only [if_true]
   rcases hnd with ⟨e8,_⟩|e8
   ·rw [e8] at e9;cases e9
   ·rw [e8] at e9;cases e9;exact .inl ⟨rfl,rfl⟩
  ·simp only [if_neg e1]
   exact (h.data i c x e).grown hg (fun y hy=>by rw [oM hm] at hy;cases hy)
 ·rcases hold i _ e with ⟨rfl,e9⟩|⟨e1,e⟩
  ·simp only [if_true]
   rcases hnd with ⟨_,_,TK⟩|e8
   ·exact fun e7=>TK (by rw [e7];exact h.ql)
   ·rw [e8] at e9;cases e9
  ·simp only [if_neg e1]
   exact h.sep i C e
 ·have hg2:∀j D,j≠k→T j=some (.dir D)→nd=.dir []→G j≠g:=fun j D _ hj e8 e7=>by
   rcases hnd with ⟨_,_,TK⟩|e9
   ·exact TK (by rw [←e7];exact h.lI j D hj)
   ·rw [e9] at e8;cases e8
  have hdn:∀D,Nd.dir D=nd→nd=.dir []:=fun D e9=>by
   rcases hnd with ⟨e8,_⟩|e8
   ·exact e8
   ·rw [e8] at e9;cases e9
  rcases hold i _ e with ⟨e1,e9⟩|⟨e1,e⟩
  ·rcases hold i' _ e' with ⟨yx,e9'⟩|⟨yx,e'⟩
   ·rw [e1,yx]
   ·rw [if_pos e1,if_neg yx] at hG
    exact absurd hG.symm (hg2 i' C' yx e' (hdn C e9))
  ·rcases hold i' _ e' with ⟨yx,e9'⟩|⟨yx,e'⟩
   ·rw [if_neg e1,if_pos yx] at hG
    exact absurd hG (hg2 i C e1 e (hdn C' e9'))
   ·rw [if_neg e1,if_neg yx] at hG
    exact h.inj i i' C C' e e' hG
 ·rcases hsm i e with e1|⟨e1,e⟩
  ·rcases hsm i' e' with yx | ⟨yx,e'⟩
   ·rw [e1,yx]
   ·simp only [if_pos e1,if_neg yx] at hB
    exact absurd (by rw [hB];exact h.ownB i' e') TL
  ·rcases hsm i' e' with yx | ⟨yx,e'⟩
   ·simp only [if_neg e1,if_pos yx] at hB
    exact absurd (by rw [←hB];exact h.ownB i e) TL
   ·simp only [if_neg e1,if_neg yx] at hB
    exact h.I7 i i' e e' hB
 ·rcases hsm i e with e1|⟨e1,e⟩
  ·simp only [if_pos e1];exact .inr (.inl trivial)
  ·simp only [if_neg e1];exact .inl (h.ownB i e)
 ·rcases hold i _ e with ⟨e1,e9⟩|⟨e1,e⟩
  ·simp only [if_pos e1]
   rcases hnd with ⟨e8,_⟩|e8
   ·exact .inr (.inr ⟨trivial,e8⟩)
   ·rw [e8] at e9;cases e9
  ·simp only [if_neg e1];exact .inl (h.lI i C e)
 ·rcases hold i _ e with ⟨e1,_⟩|⟨e1,e⟩
  ·simp only [if_pos e1] at hj;cases hj
  ·simp only [if_neg e1] at hj;exact .inl (h.Ct i c x j e hj)
 ·rcases hi with hi|rfl|⟨rfl,e8⟩
  ·exact Nat.lt_of_lt_of_le (h.lt i hi) hg.size
  ·exact Nat.lt_of_lt_of_le hbl hg.size
  ·rcases hnd with ⟨_,hS,_⟩|e9
   ·exact Nat.lt_of_lt_of_le hS.lt hg.size
   ·rw [e9] at e8;cases e8
theorem OI (hT:TrOk T) {k:Int}(hk:T k=none) (h0:k≠0):aI T k=0:=by
 by_cases e:aI T k=0
 ·exact e
 ·rcases (kX hT k).2 (.inr e) with e1|⟨d,C,sx,hd,hl⟩
  ·exact absurd e1 h0
  ·have:=hT.child d C sx k hd hl
   rw [hk] at this;cases this
theorem J9 (dir:Bool) (k:Int):cnt1 (some (eH dir)) k=0:=by cases dir<;>rfl
theorem zF (hT:bq T) {d k:Int}{nm:Nm}{C:List (Nm×Int)}(dir:Bool) (hd:T d=some (.dir C)) (hl:C.lookup nm=none) (hnm:isName nm=true) (hk:T k=none) (h0:0≤k) (h1:k<64) :
 d≠k∧bN T k (eH dir) d=some (.dir C)∧(∀i,aI (fI (bN T k (eH dir)) d nm k) i=if i=k then 1 else aI T i)∧bq (fI (bN T k (eH dir)) d nm k):=by
 have hdk:d≠k:=by rintro rfl;rw [hk] at hd;cases hd
 have hk0:k≠0:=by rintro rfl;obtain ⟨D,e⟩:=hT.root;rw [e] at hk;cases hk
 have hd':bN T k (eH dir) d=some (.dir C):=by rw [ag _ hdk];exact hd
 have hok:=hT.toTrOk.new hk h0 h1 dir
 have hcs:=Cc (x:=eH dir) hk (J9 dir)
 have hc:∀i,aI (fI (bN T k (eH dir)) d nm k) i=if i=k then 1 else aI T i:=fun i=>by
  rw [oK hok hd',hcs]
  by_cases e:i=k
  ·rw [if_pos e,if_pos e,e,OI hT.toTrOk hk hk0]
  ·rw [if_neg e,if_neg e,Nat.add_zero]
 refine ⟨hdk,hd',hc,?_⟩
 refine { toTrOk:=hok.add hd' hl hnm (by rw [ak];rfl),nr:=by rw [hc,if_neg (Ne.symm hk0)];exact hT.nr,lv:=fun i nd e=>?_ }
 rw [hc]
 by_cases e1:i=k
 ·rw [if_pos e1];exact .inr (.inl (by decide))
 ·rw [if_neg e1]
  rw [jf hd'] at e
  by_cases e2:i=d
  ·subst e2
   rw [ak] at e;cases e
   rcases hT.lv i _ hd with e3|e3|e3
   ·exact .inl e3
   ·exact .inr (.inl e3)
   ·exact absurd rfl e3
  ·rw [ag _ e2,ag _ e1] at e;exact hT.lv i nd e
end
section
variable {w w':World}{r gN s:Nat}{T:Wd}{Z:Int→Nat}{B G:Int→Nat}{V:Int→Value}{O:Nat→Prop}
theorem QQ (b:Nat) (w:World):(binOp BinOp.neq 202 (wp b) (.pointer none)).run Tryz.prog w=.ok (.bool true) w:=by kernel_rfl
theorem NM (w:World):(binOp BinOp.neq 202 (.pointer none) (.pointer none)).run Tryz.prog w=.ok (.bool false) w:=by kernel_rfl
theorem dw.wD (h:dw w r gN s T Z B G V O) (hT:TrOk T) (p:List UInt8) (b:Nat) (hp:p.length<100000) (m:Int) (hm:w.cell? ⟨4,0,none⟩=some (.int .i64 m)) (hE:aZ T s p≠0) :
 Calls Tryz.prog 306 #[wp r,tx p,wp b] w fun e w'=>e=.returned (.tuple #[.int .i64 0,eZ (aZ T s p)])∧Below w.heap.size w w':=by
 have hs1:=h.num.pos hT
 unfold aZ at hE ⊢
 by_cases hz:(ae T p).2.2=0
 ·rw [if_neg (fun e=>e hz)] at hE ⊢
  cases hh:lM T (ae T p).1 (ae T p).2.1 with
  |some n=>
   rw [if_pos (show (some n).isSome=true from rfl)]
   have sH:=h.qK hT hs1 p hp m hm hz hh
   clear hE hh hz
   go_enter Tryz.func306,Tryz.ntmps306
   go_wp2_with (go_at_call 308;refine sH.mono ?_;rintro e w1 ⟨rfl,b1⟩)
   go_ret2
   refine ⟨rfl,?_⟩
   repeat first|exact b1|refine Below.alloc ?_ (by first|omega|(have:=b1.size;omega) | (simp<;>omega)) _
  |none=>
   rw [hh] at hE
   simp only [Option.isSome_none,Bool.false_eq_true,if_false] at hE ⊢
   have h60:60≤s:=by
    by_cases e:60≤s
    ·exact e
    ·rw [if_neg e] at hE;exact absurd rfl hE
   rw [if_pos h60]
   have sH:=h.kY hT hs1 p hp m hm hz hh
   have h6:(60:Int)≤(s:Int):=by omega
   clear hE hh hz h60
   generalize (ae T p).1=d at *
   generalize (ae T p).2.1=nm at *
   go_enter Tryz.func306,Tryz.ntmps306
   go_wp2_with (first
    |(go_at_call 308;refine sH.mono ?_;rintro e w1 ⟨rfl,b1⟩;have h1:=h.below (b1.alloc b1.size (.cells #[.map (some (G d)),tx nm] 408));have c0:=h1.c0;have hmap:=h1.map)
    |(refine fT rfl _ 204 rfl 202 Tryz.underlying204 gN _ _ rfl hmap ?_))
   go_ret2
   refine ⟨rfl,?_⟩
   repeat first|exact b1|refine Below.alloc ?_ (by first|omega|(have:=b1.size;omega) | (simp<;>omega)) _
 ·rw [if_pos hz] at hE ⊢
  have sH:=h.wR hT hs1 p hp m hm hz
  generalize (ae T p).2.2=z at *
  go_enter Tryz.func306,Tryz.ntmps306
  go_wp2_with (go_at_call 308;refine sH.mono ?_;rintro e w1 ⟨rfl,b1⟩)
  go_ret2
  refine ⟨rfl,?_⟩
  repeat first|exact b1|refine Below.alloc ?_ (by first|omega|(have:=b1.size;omega) | (simp<;>omega)) _
theorem zB {b g:Nat}{k:Int}{dir:Bool}(h:w.heap[b]? = some (.cells #[if dir=true then .map (some g) else .map none,.slice none 0 0,.int .i64 0,.int .i64 0] 337)) :
 (w.setCell ⟨b,2,none⟩ (.int .i64 1)).heap[b]? = some (.cells (dG (fun _=>g) (fun _=>.slice none 0 0) (fun _=>1) k (eH dir)) 337)∧(w.cell? ⟨b,2,none⟩).isSome=true∧w.frozen? ⟨b,2,none⟩=false:=by
 refine ⟨?_,?_,by simp [World.frozen?,h]⟩
 ·rw [aN w b 2 _ _ _ _ h]
  cases dir<;>simp [dG,eH]
 ·rw [cell_of_row w b 2 _ _ _ h];rfl
theorem dw.IW (h:dw w r gN s T (aI T) B G V O) (hT:bq T) (p:List UInt8) (b g:Nat) (dir:Bool) (hp:p.length<100000) (m:Int) (hm:w.cell? ⟨4,0,none⟩=some (.int .i64 m)) (hC:∀k C,T k=some (.dir C)→C.length≤1000)
 (hb:w.heap[b]? = some (.cells #[if dir=true then .map (some g) else .map none,.slice none 0 0,.int .i64 0,.int .i64 0] 337)) (TL:¬O b) (hgd:dir=true→SMap w g 0 (fun _=>none)∧¬O g) (hE:aZ T s p=0) :
 Calls Tryz.prog 306 #[wp r,tx p,wp b] w fun e w'=>∃k,gP T k∧k<64∧e=.returned (.tuple #[.int .i64 k,.nilIface])∧PT w' r (gZ T p dir k) (fun i=>O i∨i=b∨(i=g∧eH dir=.dir []))∧Wt (fun i=>O i∨i=b∨(i=g∧eH dir=.dir [])) w w':=by
 have mY:=hT.toTrOk
 have hs1:=h.num.pos mY
 have TZ:=h.num
 obtain ⟨hz,⟨C,hd,hl⟩,hnm,WG⟩:=kF mY hE
 have sH:=h.kY mY hs1 p hp m hm hz (by rw [dK hd];exact hl)
 have hnl:=dQ hnm
 have VQ:=hC _ C hd
 have h6:¬(60:Int)≤(s:Int):=by omega
 unfold gZ
 clear hz hE
 generalize (ae T p).1=d at *
 generalize (ae T p).2.1=nm at *
 obtain ⟨OO,XW⟩:∃OO:Nat→Prop,(fun i=>O i∨i=b∨(i=g∧eH dir=.dir []))=OO:=⟨_,rfl⟩
 rw [XW]
 have hO1:∀i,O i→OO i:=fun i hi=>by rw [←XW];exact .inl hi
 have hOb:OO b:=by rw [←XW];exact .inr (.inl rfl)
 -- the turns, ahead of the walk
 have hput:∀(k:Int) w1,Below w.heap.size w w1→T k=none→0≤k→k<64→∃w2,(Instr.mapUpdate 204 (.map (some gN)) (.int .i64 k) (wp b)).run Tryz.prog (w1.setCell ⟨b,2,none⟩ (.int .i64 1))=.ok () w2∧
  dw w2 r gN (s+1) (bN T k (eH dir)) (fun i=>if i=k then 1 else aI T i) (fun i=>if i=k then b else B i) (fun i=>if i=k then g else G i) (fun i=>if i=k then .slice none 0 0 else V i) OO∧Wt OO w w2∧∀i,w.heap.size≤i→i<w1.heap.size→w2.heap[i]? = w1.heap[i]? := fun k w1 b1 hk h0 h1=>by
  have hbl:b<w.heap.size:=(Array.getElem?_eq_some_iff.1 hb).1
  have hb1:=(b1.block b hbl).trans hb
  obtain ⟨hnc,_,_⟩:=zB (k:=k) hb1
  have gc:w1.grownBy (w1.setCell ⟨b,2,none⟩ (.int .i64 1)) (some b):=⟨rfl,rfl,rfl,by simp [World.setCell],fun i _ hne=>Below.heap_setCell _ _ _ _ (fun e=>hne (by rw [e]))⟩
  have h2:dw (w1.setCell ⟨b,2,none⟩ (.int .i64 1)) r gN s T (aI T) B G V O:=(h.below b1).keep (fun i hi=>gc.block i (Nat.lt_of_lt_of_le (h.lt i hi) b1.size) (fun e=>TL (by rw [←Option.some.inj e];exact hi))) gc.size
  obtain ⟨w2,hrun,pm,g2⟩:=h2.map.put Tryz.underlying204 (by unfold maxLen;omega) k (gW h0 (by omega)) (wp b)
  rw [show ((T k).map (fun _=>wp (B k))).isSome=false by rw [hk];rfl] at pm
  simp only [Bool.false_eq_true,if_false] at pm
  refine ⟨w2,hrun,?_,?_,fun i hi hi1=>?_⟩
  ·have h3:=h2.new (nd:=eH dir) hk g2 pm hnc TL (by
    cases dir with
    |true=>
     obtain ⟨hS,TK⟩:=hgd rfl
     refine .inl ⟨rfl,(hS.keep (b1.block g hS.lt)).keep (Below.heap_setCell _ _ _ _ (fun e=>?_)),TK⟩
     obtain ⟨es,cl,hm⟩:=hS.isMap
     rw [show g=b from e,hb] at hm;cases hm
    |false=>exact .inr rfl)
   rw [XW] at h3
   exact h3
  ·refine (Wt.below _ b1).trans ((Wt.grown gc hOb).trans (.grown g2 (hO1 _ h.ql)))
  ·rw [g2.block i (by simpa using hi1) (fun e=>by have:=h.lt _ h.ql;rw [←Option.some.inj e] at this;omega)]
   exact Below.heap_setCell _ _ _ _ (by show i≠b;omega)
 have hset:∀(k:Int) w2,T k=none→0≤k→k<64→dw w2 r gN (s+1) (bN T k (eH dir)) (fun i=>if i=k then 1 else aI T i) (fun i=>if i=k then b else B i) (fun i=>if i=k then g else G i) (fun i=>if i=k then .slice none 0 0 else V i) OO→
  Calls Tryz.prog 309 #[qU (some (G d)) nm,.int .i64 k] w2 fun e w'=>(∃v,e=.returned v)∧PT w' r (fI (bN T k (eH dir)) d nm k) OO∧Wt OO w2 w':=fun k w2 hk h0 h1 h2=>by
  obtain ⟨hdk,hd',hc,_⟩:=zF hT dir hd hl hnm hk h0 h1
  have Cq:=h2.jS d C hd'
  rw [if_neg hdk] at Cq
  refine (EU Cq (by unfold maxLen;omega) nm (by omega) (by simp only [hl,Option.map_none]) k).mono ?_
  rintro e w3 ⟨hv,sm,g3⟩
  have h3:=h2.add (d:=d) (nm:=nm) (n:=k) hd' (w':=w3) (by rw [if_neg hdk];exact g3) (by rw [if_neg hdk];exact sm)
  exact ⟨hv,⟨gN,s+1,_,_,_,h3.as rfl (fun i _=>hc i)⟩,.grown g3 (hO1 _ (h.lI d C hd))⟩
 have UW:∀w1,Below w.heap.size w w1→∃v,w1.cell? ⟨b,2,none⟩=some v∧w1.frozen? ⟨b,2,none⟩=false:=fun w1 b1=>by
  have hbl:b<w.heap.size:=(Array.getElem?_eq_some_iff.1 hb).1
  obtain ⟨_,hs,hf⟩:=zB (k:=0) ((b1.block b hbl).trans hb)
  obtain ⟨v,hv⟩:=Option.isSome_iff_exists.1 hs
  exact ⟨v,hv,hf⟩
 have p1:=QQ
 have p2:=NM
 obtain ⟨C0,hroot⟩:=mY.root
 go_enter Tryz.func306,Tryz.ntmps306
 go_wp2_with (first
  |(go_at_call 308;refine sH.mono ?_;rintro e w1 ⟨rfl,b1⟩;have b8:=b1.alloc b1.size (.cells #[.map (some (G d)),tx nm] 408);have h1:=h.below b8;have c0:=h1.c0;have hmap:=h1.map)
  |(refine fT rfl _ 204 rfl 202 Tryz.underlying204 gN _ _ rfl hmap ?_))
 have q2:(w1.alloc (.cells #[.map (some (G d)),tx nm] 408)).heap[w1.heap.size]? = some (.cells #[.map (some (G d)),tx nm] 408):=World.alloc_heap_new _ _
 have q3:w1.heap.size<(w1.alloc (.cells #[.map (some (G d)),tx nm] 408)).heap.size:=by simp
 generalize w1.alloc (.cells #[.map (some (G d)),tx nm] 408)=w2 at *
 clear hmap
 go_loopg [10] 64 (fun mm s10 wr=>∃(i:Nat),i+mm=65∧s10=.int .i64 (i:Int)∧1≤i∧i≤s∧(∀j:Nat,j<i→(T j).isSome=true)∧wr=w2)
 case atStart=>exact ⟨1,by omega,rfl,by omega,by omega,fun j hj=>by
  have:j=0:=by omega
  subst this;rw [show ((0:Nat):Int)=0 from rfl,hroot];rfl,rfl⟩
 case round=>
  obtain ⟨i,hi,rfl,hi1,his,hall,hw⟩:=hrel
  subst hw
  have hwf:(Lit.int .i64 (i:Int)).wf=true:=gW (by omega) (by omega)
  have hlk:=h1.look (i:Int) hwf
  cases hn:T (i:Int) with
  |some nd=>
   rw [hn] at hlk
   simp only [Option.isSome_some,if_true] at hlk
   have hi2:i+1≤s:=TZ.free (k:=i+1) (fun j hj=>by
    by_cases e:j=i
    ·rw [e,hn];rfl
    ·exact hall j (by omega))
   go_wp2_with fail
   go_roundg (gk-1)
   case measure=>omega
   case rel=>exact ⟨i+1,by omega,by go_num,by omega,hi2,fun j hj=>by
    by_cases e:j=i
    ·rw [e,hn];rfl
    ·exact hall j (by omega),rfl⟩
  |none=>
   rw [hn] at hlk
   simp only [Option.isSome_none,Bool.false_eq_true,if_false] at hlk
   have hfree:gP T (i:Int):=⟨by omega,hn,fun j h0 h1=>by
    obtain ⟨j',rfl⟩:∃j':Nat,j=j':=⟨j.toNat,by omega⟩
    exact hall j' (by omega)⟩
   obtain ⟨w3,hrun,h3,Ye,hk3⟩:=hput (i:Int) _ b8 hn (by omega) (by omega)
   have hS:=hset (i:Int) w3 hn (by omega) (by omega) h3
   obtain ⟨vb,bc,bf⟩:=UW _ b8
   obtain ⟨x0,x1,_,_⟩:=aL ((hk3 _ b1.size q3).trans q2)
   have hr0:(wr.setCell ⟨b,2,none⟩ (.int .i64 1)).cell? ⟨r,0,none⟩=some (.map (some gN)):=by
    rw [World.cell?_of_block (w:=wr) (a:=⟨r,0,none⟩) (Below.heap_setCell wr ⟨b,2,none⟩ (.int .i64 1) r (fun e=>TL ((show r=b from e) ▸ h.vM)))];exact c0
   have Zz:(i:Int)<64:=by omega
   clear hput hset hall hn
   go_wp2_with (go_at_call 309;refine hS.mono ?_;rintro e w4 ⟨⟨v,rfl⟩,h4,wt4⟩)
   go_ret2
   exact ⟨(i:Int),hfree,Zz,rfl,h4,Ye.trans wt4⟩
end
section
variable {w w':World}{r gN s:Nat}{T:Wd}{Z:Int→Nat}{B G:Int→Nat}{V:Int→Value}{O:Nat→Prop}
theorem zC (w:World):Calls Tryz.prog 132 #[] w fun e w'=>e=.returned (wp (w.heap.size+1))∧w'=(w.alloc (.map #[] 0)).alloc (.cells #[.map (some w.heap.size),.slice none 0 0,.int .i64 0,.int .i64 0] 337):=by
 have hmm:=@run_makeMap Tryz.prog
 go_enter Tryz.func132,Tryz.ntmps132
 go_wp2_with fail
 go_ret
 exact ⟨rfl,rfl⟩
def X8 (w:World) (r:Nat) (T:Wd) (O:Nat→Prop) (s:Nat) (p:List UInt8) (dir:Bool) (e:Ending) (w':World):Prop:=
 (aZ T s p≠0∧e=.returned (.tuple #[.int .i64 0,eZ (aZ T s p)])∧PT w' r T O∧Stp w w' O O)∨
 (aZ T s p=0∧∃k O',gP T k∧k<64∧e=.returned (.tuple #[.int .i64 k,.nilIface])∧PT w' r (gZ T p dir k) O'∧Stp w w' O O')
theorem PT.K8 (h:PT w r T O) (hT:bq T) (hs:di T s) (p:List UInt8) (hp:p.length<100000) (m:Int) (hm:w.cell? ⟨4,0,none⟩=some (.int .i64 m)) (hC:∀k C,T k=some (.dir C)→C.length≤1000) :
 Calls Tryz.prog 322 #[wp r,tx p] w (X8 w r T O s p false):=by
 obtain ⟨gN,s',B,G,V,h⟩:=h
 obtain rfl:=hs.one h.num
 have bA:Below w.heap.size w (w.alloc (.cells #[.map none,.slice none 0 0,.int .i64 0,.int .i64 0] 337)):=(Below.refl _ _).alloc (Nat.le_refl _) _
 have hA:=h.below bA
 have V5:=aR hm bA
 by_cases hE:aZ T s p=0
 ·have hAdd:=hA.IW hT p w.heap.size 0 false hp m V5 hC (World.alloc_heap_new _ _) (fun ho=>by have:=h.lt _ ho;omega) (fun e=>by cases e) hE
  go_enter Tryz.func322,Tryz.ntmps322
  go_wp2_with (go_at_call 306;refine hAdd.mono ?_;rintro e w1 ⟨k,hk,Ua,rfl,h1,Ck⟩)
  go_ret2
  refine .inr ⟨hE,k,_,hk,Ua,rfl,h1,⟨⟨Ck.os,Ck.tape,Ck.output,Nat.le_trans bA.size Ck.size,fun i hi hn=>?_⟩,fun i hi=>?_⟩⟩
  ·refine (Ck.block i (Nat.lt_of_lt_of_le hi bA.size) (fun ho=>?_)).trans (bA.block i hi)
   rcases ho with ho|rfl|⟨_,e⟩
   ·exact hn ho
   ·omega
   ·cases e
  ·rcases hi with ho|rfl|⟨_,e⟩
   ·exact .inl ho
   ·exact .inr (Nat.le_refl _)
   ·cases e
 ·have hAdd:=hA.wD hT.toTrOk p w.heap.size hp m V5 hE
  have hfin:∀e w',e=.returned (.tuple #[.int .i64 0,eZ (aZ T s p)])→Below w.heap.size w w'→X8 w r T O s p false e w':=fun e w' he b=>.inl ⟨hE,he,⟨gN,s,B,G,V,h.below b⟩,.below b⟩
  generalize aZ T s p=z at *
  go_enter Tryz.func322,Tryz.ntmps322
  go_wp2_with (go_at_call 306;refine hAdd.mono ?_;rintro e w1 ⟨rfl,b1⟩)
  go_ret2
  exact hfin _ _ rfl (bA.trans (b1.mono bA.size))
def iF:Wd:=fun k=>if k=0 then some (.dir []) else none
theorem bn {k:Int}{nd:Nd}(h:iF k=some nd):k=0∧nd=.dir []:=by
 unfold iF at h
 by_cases e:k=0
 ·rw [if_pos e] at h;cases h;exact ⟨e,rfl⟩
 ·rw [if_neg e] at h;cases h
theorem zA (k:Int):aI iF k=0:=by
 by_cases e:aI iF k=0
 ·exact e
 ·obtain ⟨i,_,hi⟩:=uj 64 e
  exfalso
  apply hi
  cases h:iF (i:Int) with
  |none=>rfl
  |some nd=>obtain ⟨_,rfl⟩:=bn h;rfl
theorem NY:bq iF:=
 { root:=⟨[],rfl⟩
   key:=fun k h=>by
    cases e:iF k with
    |none=>rw [e] at h;cases h
    |some nd=>obtain ⟨rfl,_⟩:=bn e;omega
   nodup:=fun k C h=>by obtain ⟨_,e⟩:=bn h;cases e;exact List.nodup_nil
   child:=fun k C s n h hl=>by obtain ⟨_,e⟩:=bn h;cases e;cases hl
   name:=fun k C x h hx=>by obtain ⟨_,e⟩:=bn h;cases e;cases hx
   small:=fun k b x h=>by obtain ⟨_,e⟩:=bn h;cases e
   nr:=zA 0
   lv:=fun k nd h=>.inl (bn h).1 }
theorem UI (w:World):Calls Tryz.prog 47 #[] w fun e w'=>∃r O,e=.returned (wp r)∧PT w' r iF O∧Below w.heap.size w w'∧∀i,O i→w.heap.size≤i:=by
 have hmm:=@run_makeMap Tryz.prog
 have hz1:(w.alloc (.map #[] 0)).heap.size=w.heap.size+1:=by simp
 have Wj:=zC (w.alloc (.map #[] 0))
 rw [hz1] at Wj
 have hp0:=aF.made w
 have bA:Below w.heap.size w (((w.alloc (.map #[] 0)).alloc (.map #[] 0)).alloc (.cells #[.map (some (w.heap.size+1)),.slice none 0 0,.int .i64 0,.int .i64 0] 337)):=(((Below.refl _ _).alloc (Nat.le_refl _) _).alloc (by rw [hz1];omega) _).alloc (by simp;omega) _
 have hszA:(((w.alloc (.map #[] 0)).alloc (.map #[] 0)).alloc (.cells #[.map (some (w.heap.size+1)),.slice none 0 0,.int .i64 0,.int .i64 0] 337)).heap.size=w.heap.size+3:=by simp
 have hpA:aF (((w.alloc (.map #[] 0)).alloc (.map #[] 0)).alloc (.cells #[.map (some (w.heap.size+1)),.slice none 0 0,.int .i64 0,.int .i64 0] 337)) w.heap.size 0 (fun _=>none):=(hp0.keep (Below.heap_alloc _ _ _ (by rw [hz1];omega))).keep (Below.heap_alloc _ _ _ (by simp;omega))
 have hsA:SMap (((w.alloc (.map #[] 0)).alloc (.map #[] 0)).alloc (.cells #[.map (some (w.heap.size+1)),.slice none 0 0,.int .i64 0,.int .i64 0] 337)) (w.heap.size+1) 0 (fun _=>none):=by
  have:=SMap.made (w.alloc (.map #[] 0))
  rw [hz1] at this
  exact this.keep (Below.heap_alloc _ _ _ this.lt)
 have hnA:(((w.alloc (.map #[] 0)).alloc (.map #[] 0)).alloc (.cells #[.map (some (w.heap.size+1)),.slice none 0 0,.int .i64 0,.int .i64 0] 337)).heap[w.heap.size+2]? = some (.cells #[.map (some (w.heap.size+1)),.slice none 0 0,.int .i64 0,.int .i64 0] 337):=by
  have:=yU (w.alloc (.map #[] 0)) (.map #[] 0) (.cells #[.map (some (w.heap.size+1)),.slice none 0 0,.int .i64 0,.int .i64 0] 337)
  rwa [hz1] at this
 generalize ((w.alloc (.map #[] 0)).alloc (.map #[] 0)).alloc (.cells #[.map (some (w.heap.size+1)),.slice none 0 0,.int .i64 0,.int .i64 0] 337)=wA at *
 obtain ⟨w1,hrun,u7,g1⟩:=hpA.put Tryz.underlying204 (by unfold maxLen;omega) 0 (by decide) (wp (w.heap.size+2))
 have hkp:∀i,i<w.heap.size+3→i≠w.heap.size→w1.heap[i]? = wA.heap[i]? := fun i hi hne=>g1.block i (by rw [hszA];exact hi) (fun e=>hne (Option.some.inj e))
 have b1:Below w.heap.size w w1:=bA.grown g1 (by omega) (fun k e=>by cases e;omega)
 have hz9:w.heap.size+3≤w1.heap.size:=by have:=g1.size;omega
 have hfin:PT (w1.alloc (.cells #[.map (some w.heap.size)] 206)) w1.heap.size iF (fun i=>w.heap.size≤i∧i<w1.heap.size+1):=by
  have hal:∀i,i<w1.heap.size→(w1.alloc (.cells #[.map (some w.heap.size)] 206)).heap[i]? = w1.heap[i]? := fun i hi=>Below.heap_alloc _ _ _ hi
  refine ⟨w.heap.size,1,fun _=>w.heap.size+2,fun _=>w.heap.size+1,fun _=>.slice none 0 0,World.alloc_heap_new _ _,?_,fun k nd e=>?_,fun k C e=>?_,fun k b x e=>?_,fun k C e=>by omega,fun k k' C C' e e' _=>?_,fun k k' e e' _=>?_,⟨by omega,by omega⟩,⟨by omega,by omega⟩,fun k _=>⟨by omega,by omega⟩,fun k C _=>⟨by omega,by omega⟩,fun k b x i e=>?_,fun i hi=>by simp;omega⟩
  ·have e:(fun i=>if i=(0:Int) then some (wp (w.heap.size+2)) else (fun _=>none) i)=fun k=>(iF k).map (fun _=>wp (w.heap.size+2)):=by
    funext i;unfold iF;by_cases e:i=0<;>simp [e]
   rw [←e]
   exact u7.keep (hal _ (by omega))
  ·obtain ⟨rfl,rfl⟩:=bn e
   rw [hal _ (by omega),hkp _ (by omega) (by omega),hnA]
   simp [dG,zA]
  ·obtain ⟨rfl,e9⟩:=bn e
   cases e9
   exact (hsA.keep (hkp _ (by omega) (by omega))).keep (hal _ (by omega))
  ·obtain ⟨_,e9⟩:=bn e;cases e9
  ·rw [(bn e).1,(bn e').1]
  ·cases h1:iF k with
   |none=>rw [h1] at e;cases e
   |some nd=>cases h2:iF k' with
    |none=>rw [h2] at e';cases e'
    |some kK=>rw [(bn h1).1,(bn h2).1]
  ·obtain ⟨_,e9⟩:=bn e;cases e9
 have b2:Below w.heap.size w (w1.alloc (.cells #[.map (some w.heap.size)] 206)):=b1.alloc b1.size _
 clear u7 g1 hkp hpA hsA hnA bA b1
 go_enter Tryz.func47,Tryz.ntmps47
 go_wp2_with (go_at_call 132;refine Wj.mono ?_;rintro e w' ⟨rfl,hw'⟩;subst w')
 go_ret
 exact ⟨w1.heap.size,_,rfl,hfin,b2,fun i hi=>hi.1⟩
end
def EJ (w:World) (v:Value) (l:List UInt8):Prop:=
 ∃a c,v=.slice a l.length c∧l.length≤c∧((a=none∧l=[]∧c=0)∨∃g o,a=some ⟨g,o,none⟩∧∀j (h:j<l.length),w.cell? ⟨g,o+j,none⟩=some (.int .u8 (l[j].toNat:Int)))
section
variable {w w':World}{v:Value}{l:List UInt8}
theorem Dat.rdb (h:Dat w v l):EJ w v l:=by
 rcases h with ⟨rfl,rfl⟩|⟨g,c,rfl,hc,_,hi⟩
 ·exact ⟨none,0,rfl,Nat.le_refl _,.inl ⟨rfl,rfl,rfl⟩⟩
 ·exact ⟨_,c,rfl,hc,.inr ⟨g,0,rfl,fun j hj=>by rw [Nat.zero_add];exact hi j hj⟩⟩
theorem Bb (w:World):(sizeOf 5).run Tryz.prog w=.ok 1 w:=by kernel_rfl
theorem vH:Tryz.prog.elem 300=5:=by kernel_rfl
theorem wG:Tryz.prog.underlying 300=some (.slice (Tryz.prog.elem 300)):=by rw [vH];exact Tryz.underlying300
theorem EJ.from (h:EJ w v l) (k:Nat) (hk:k≤l.length):∃v',(∀W,(Instr.slice 300 v (some (.int .i64 (k:Int))) none none).run Tryz.prog W=.ok v' W)∧EJ w v' (l.drop k):=by
 obtain ⟨a,c,rfl,hc,hx⟩:=h
 refine ⟨sliced a k l.length c 1,fun W=>?_,?_⟩
 ·rw [run_slice_l (P:=Tryz.prog) W 300 a l.length c wG .i64 (k:Int) (by omega) (by omega),vH,Bb]
  simp [Result.andThen]
 ·unfold sliced
  rcases hx with ⟨rfl,rfl,rfl⟩|⟨g,o,rfl,hi⟩
  ·have:k=0:=by simpa using hk
   subst this
   exact ⟨none,0,by simp,Nat.le_refl _,.inl ⟨rfl,rfl,rfl⟩⟩
  ·by_cases e:c=k
   ·have hd:l.drop k=[]:=List.drop_eq_nil_of_le (by omega)
    rw [hd,if_pos e]
    exact ⟨some ⟨g,o,none⟩,c-k,by rw [show l.length-k=0 by omega];rfl,by simp,.inr ⟨g,o,rfl,fun j hj=>by simp at hj⟩⟩
   ·rw [if_neg e]
    refine ⟨some ⟨g,o+k,none⟩,c-k,by simp [Addr.add],by simp;omega,.inr ⟨g,o+k,rfl,fun j hj=>?_⟩⟩
    have:=hi (k+j) (by simp at hj;omega)
    rw [Nat.add_assoc,this,List.getElem_drop]
theorem EJ.upto (h:EJ w v l) (k:Nat) (hk:k≤l.length):∃v',(∀W,(Instr.slice 300 v none (some (.int .i64 (k:Int))) none).run Tryz.prog W=.ok v' W)∧EJ w v' (l.take k):=by
 obtain ⟨a,c,rfl,hc,hx⟩:=h
 refine ⟨sliced a 0 k c 1,fun W=>?_,?_⟩
 ·rw [run_slice_h (P:=Tryz.prog) W 300 a l.length c wG .i64 (k:Int) (by omega) (by omega),vH,Bb]
  simp [Result.andThen]
 ·unfold sliced
  have hl:(l.take k).length=k:=by simp;omega
  rcases hx with ⟨rfl,rfl,rfl⟩|⟨g,o,rfl,hi⟩
  ·have:k=0:=by simpa using hk
   subst this
   exact ⟨none,0,by simp,Nat.le_refl _,.inl ⟨rfl,rfl,rfl⟩⟩
  ·refine ⟨some ⟨g,o,none⟩,c,?_,by rw [hl];omega,.inr ⟨g,o,rfl,fun j hj=>?_⟩⟩
   ·rw [hl];split<;>simp [Addr.add]
   ·rw [hl] at hj
    rw [hi j (by omega),List.getElem_take]
theorem EJ.text (h:EJ w v l):(convert 300 9 v).run Tryz.prog w=.ok (tx l) w:=by
 obtain ⟨a,c,rfl,hc,hx⟩:=h
 rcases hx with ⟨rfl,rfl,rfl⟩|⟨g,o,rfl,hi⟩
 ·exact Lib.run_convert_nil_bytes w 300 9 5 0 Tryz.underlying300 Tryz.underlying5 Tryz.underlying9
 ·exact run_convert_bytes_back (P:=Tryz.prog) w 300 9 5 ⟨g,o,none⟩ c l Tryz.underlying300 Tryz.underlying5 Tryz.underlying9 (fun j hj=>by rw [Addr.add_lit];exact hi j hj)
theorem EJ.len (h:EJ w v l):∃a c,v=.slice a l.length c:=by
 obtain ⟨a,c,rfl,_⟩:=h
 exact ⟨a,c,rfl⟩
end
section
variable {w w':World}{r gN s:Nat}{T:Wd}{Z:Int→Nat}{B G:Int→Nat}{V:Int→Value}{O:Nat→Prop}
theorem Ih (ts:Array TypeId) (ty:TypeId) (x y:Int) (k:Nat) (h:(k:Int)=min x y) (W:World):(Builtin.min_ ts ty #[.int .i64 x,.int .i64 y]).run Tryz.prog W=.ok (.int .i64 (k:Int)) W:=by
 rw [run_min_int2]
 congr 2
 by_cases e:y<x
 ·rw [if_pos e];omega
 ·rw [if_neg e];omega
theorem PT.Bd (h:PT w r T O) (n a mm:Int) (hw:(Lit.int .i64 n).wf=true) :
 Calls Tryz.prog 157 #[wp r,.int .i64 n,.int .i64 a,.int .i64 mm] w fun e w'=>e=.returned (.tuple #[tx (dS T n a mm),aH (ji T n a mm)])∧∃q,w'=w.drewN q:=by
 obtain ⟨gN,s,B,G,V,h⟩:=h
 by_cases hz:bF T n=0
 ·obtain ⟨b,x,hn⟩:=kG hz
  have hF:=h.kZ n hw hn
  obtain ⟨_,n1,_⟩:=h.pY hn
  have hD:=(h.data n b x hn).rdb
  generalize V n=v at *
  by_cases ha:a<0
  ·have e1:ji T n a mm=2:=by unfold ji;rw [if_neg (fun e=>e hz),if_pos (.inl ha)]
   have e2:dS T n a mm=[]:=by unfold dS;rw [hn];simp only;rw [if_pos (.inl ha)]
   rw [e1,e2]
   clear hn hz e1 e2 hD
   go_enter Tryz.func157,Tryz.ntmps157
   go_wp2_with (go_at_call 242;refine hF.mono ?_;rintro e w' ⟨rfl,hw'⟩;subst w')
   go_ret2
   exact ⟨rfl,0,rfl⟩
  ·by_cases hm:mm<0
   ·have e1:ji T n a mm=2:=by unfold ji;rw [if_neg (fun e=>e hz),if_pos (.inr hm)]
    have e2:dS T n a mm=[]:=by unfold dS;rw [hn];simp only;rw [if_pos (.inr hm)]
    rw [e1,e2]
    clear hn hz e1 e2 hD
    go_enter Tryz.func157,Tryz.ntmps157
    go_wp2_with (go_at_call 242;refine hF.mono ?_;rintro e w' ⟨rfl,hw'⟩;subst w')
    go_ret2
    exact ⟨rfl,0,rfl⟩
   ·have e1:ji T n a mm=0:=by unfold ji;rw [if_neg (fun e=>e hz),if_neg (by omega)]
    obtain ⟨k1,hk1⟩:∃k1,min a.toNat b.length=k1:=⟨_,rfl⟩
    obtain ⟨k2,hk2⟩:∃k2,min mm.toNat (b.length-k1)=k2:=⟨_,rfl⟩
    have e2:dS T n a mm=(b.drop k1).take k2:=by
     unfold dS;rw [hn];simp only;rw [if_neg (by omega),←hk2,←hk1]
     by_cases e:a.toNat≤b.length
     ·rw [Nat.min_eq_left e]
      by_cases e':mm.toNat≤b.length-a.toNat
      ·rw [Nat.min_eq_left e']
      ·rw [Nat.min_eq_right (by omega),List.take_of_length_le (by simp;omega),List.take_of_length_le (by simp)]
     ·rw [show min a.toNat b.length=b.length by omega,List.drop_eq_nil_of_le (show b.length≤a.toNat by omega),List.drop_length];simp
    rw [e1,e2,aC]
    obtain ⟨v1,r1,d1⟩:=hD.from k1 (by omega)
    obtain ⟨v2,r2,d2⟩:=d1.upto k2 (by simp;omega)
    have m1:=fun ts ty=>Ih ts ty a (b.length:Int) k1 (by omega)
    have m2:=fun ts ty=>Ih ts ty mm ((b.length-k1:Nat):Int) k2 (by omega)
    have tq:(convert 300 9 v2).run Tryz.prog w.drew=.ok (tx ((b.drop k1).take k2)) w.drew:=EJ.text (w:=w.drew) d2
    obtain ⟨A,c,rfl⟩:=hD.len
    obtain ⟨A1,c1,e3⟩:=d1.len
    rw [List.length_drop] at e3
    subst e3
    generalize (b.drop k1).take k2=res at *
    generalize b.length-k1=L1 at *
    clear hn hz e1 e2 hD d1 d2 hk1 hk2
    go_enter Tryz.func157,Tryz.ntmps157
    go_wp2_with (go_at_call 242;refine hF.mono ?_;rintro e w' ⟨rfl,hw'⟩;subst w')
    go_region
    go_wp2_with fail
    go_ret2
    exact ⟨rfl,1,rfl⟩
 ·have hF:=h.jo n hw hz
  have e1:ji T n a mm=bF T n:=by unfold ji;rw [if_pos hz]
  have e2:dS T n a mm=[]:=by
   unfold dS
   cases hn:T n with
   |none=>rfl
   |some nd=>cases nd with
    |dir C=>rfl
    |file b x=>exact absurd (by unfold bF;rw [hn]) hz
  rw [e1,e2,az hz]
  generalize bF T n=z at *
  go_enter Tryz.func157,Tryz.ntmps157
  go_wp2_with (go_at_call 242;refine hF.mono ?_;rintro e w' ⟨rfl,hw'⟩;subst w')
  go_ret2
  exact ⟨rfl,0,rfl⟩
end
section
variable {w w':World}{v:Value}{l:List UInt8}
theorem OY (w:World) (N:Nat) (hN:N≤1000):∃w',(Instr.makeSlice 300 (.int .i64 (N:Int)) (.int .i64 (N:Int))).run Tryz.prog w=.ok (.slice (some ⟨w.heap.size,0,none⟩) N N) w'∧Pv w' w.heap.size (.slice (some ⟨w.heap.size,0,none⟩) N N) (List.replicate N 0)∧Below w.heap.size w w':=by
 obtain ⟨i,hi,hz,hs,hb⟩:=info_parts (P:=Tryz.prog) (e:=5) (z:=.int .u8 0) (size:=1) (bytes:=1) (by kernel_rfl)
 have hr:=run_make (P:=Tryz.prog) w 300 5 i _ Tryz.underlying300 hi hz .i64 .i64 (N:Int) (N:Int) (by omega) (by omega) (by rw [hb];omega) (by omega)
 rw [hs,Int.toNat_natCast,Nat.mul_one] at hr
 refine ⟨_,hr,?_,(Below.refl _ _).alloc (Nat.le_refl _) _⟩
 have hnew:(w.alloc (.cells (madeCells (Value.int .u8 0).cells N) 5)).heap[w.heap.size]? = some (.cells (madeCells (Value.int .u8 0).cells N) 5):=World.alloc_heap_new _ _
 have hsz:(madeCells (Value.int .u8 0).cells N).size=N:=size_madeCells _ _
 have hel:∀j (hj:j<N),(madeCells (Value.int .u8 0).cells N)[j]? = some (.int .u8 0):=fun j hj=>by
  simp [madeCells,Value.cells,hj,Nat.mod_one]
 refine ⟨w.heap.size,N,by simp,Nat.le_refl _,by simp,by simp,fun j hj=>?_,fun j hj=>⟨?_,?_⟩⟩
 ·rw [cell_of_row _ _ j _ _ _ hnew,hel j (by simpa using hj)];simp
 ·rw [cell_of_row _ _ j _ _ _ hnew,hel j hj];rfl
 ·unfold World.frozen?
  simp only [hnew]
  simp
theorem Pv.XC {g cap B:Nat}{b:List UInt8}{u:Value}(h:Pv w B (.slice (some ⟨g,0,none⟩) l.length cap) l) (hr:EJ w u b) (hb:b.length≤l.length) (ty:TypeId) :
 (Builtin.copy_ #[300,300] ty #[.slice (some ⟨g,0,none⟩) l.length cap,u]).run Tryz.prog w=.ok (.int .i64 (b.length:Int)) (w.setCells g 0 (ED b)):=by
 obtain ⟨g',cap',e,hB,hlt,hcap,h1,h2⟩:=h
 cases e
 obtain ⟨a,c,rfl,hc,hx⟩:=hr
 have hu:(ED b).length=b.length:=by unfold ED;rw [List.length_map]
 have hsz:(Tryz.prog.info? 5).map (·.size)=some 1:=by kernel_rfl
 rcases hx with ⟨rfl,rfl,rfl⟩|⟨g2,o,rfl,hi⟩
 ·exact run_copy_none (P:=Tryz.prog) w 300 300 ty 5 _ none l.length cap 0 0 Tryz.underlying300 hsz (Nat.zero_min _)
 ·have:=run_copy_cells (P:=Tryz.prog) w 300 300 ty 5 g 0 l.length cap ⟨g2,o,none⟩ b.length c (ED b) Tryz.underlying300 hsz (by rw [hu];exact (Nat.min_eq_left hb).symm) (fun j x hj=>by
   obtain ⟨hjl,rfl⟩:=Qp hj
   rw [Addr.add_lit];exact hi j hjl) (fun j hj=>(h2 _ (by rw [hu] at hj;omega)).1) (fun j hj=>(h2 _ (by rw [hu] at hj;omega)).2) (fun x hx=>by
   unfold ED at hx
   obtain ⟨y,_,rfl⟩:=List.mem_map.1 hx
   rfl)
  rw [hu] at this
  exact this
theorem Pv.dat {B:Nat}(h:Pv w B v l):Dat w v l:=by
 obtain ⟨g,cap,rfl,_,hlt,hc,h1,_⟩:=h
 exact .inr ⟨g,cap,rfl,hc,hlt,h1⟩
end
theorem Ri (ts:Array TypeId) (ty:TypeId) (x y:Int) (k:Nat) (h:(k:Int)=max x y) (W:World):(Builtin.max_ ts ty #[.int .i64 x,.int .i64 y]).run Tryz.prog W=.ok (.int .i64 (k:Int)) W:=by
 rw [run_max_int2]
 congr 2
 by_cases e:y > x
 ·rw [if_pos e];omega
 ·rw [if_neg e];omega
theorem D7 {w:World}{u:Value}{b x:List UInt8}(hd:EJ w u b) (Ph:∀g o l c,u=.slice (some ⟨g,o,none⟩) l c→g<w.heap.size) (a:Nat) (hx:x≠[]) (hb:b.length≤256) (hax:a+x.length≤200) :
 ∃N w1 w2 w3,max b.length (a+x.length)=N∧(Instr.makeSlice 300 (.int .i64 (N:Int)) (.int .i64 (N:Int))).run Tryz.prog w=.ok (.slice (some ⟨w.heap.size,0,none⟩) N N) w1∧
  (∀ty,(Builtin.copy_ #[300,300] ty #[.slice (some ⟨w.heap.size,0,none⟩) N N,u]).run Tryz.prog w1=.ok (.int .i64 (b.length:Int)) w2)∧
  (∀W,(Instr.slice 300 (.slice (some ⟨w.heap.size,0,none⟩) N N) (some (.int .i64 (a:Int))) none none).run Tryz.prog W=.ok (.slice (some ⟨w.heap.size,a,none⟩) (N-a) (N-a)) W)∧
  (∀ty,(Builtin.copy_ #[300,9] ty #[.slice (some ⟨w.heap.size,a,none⟩) (N-a) (N-a),tx x]).run Tryz.prog w2=.ok (.int .i64 (x.length:Int)) w3)∧
  Dat w3 (.slice (some ⟨w.heap.size,0,none⟩) N N) (Cz b a x)∧Below w.heap.size w w1∧Below w.heap.size w w2∧Below w.heap.size w w3:=by
 have hxl:1≤x.length:=List.length_pos_iff.2 hx
 obtain ⟨N,hN⟩:∃N,max b.length (a+x.length)=N:=⟨_,rfl⟩
 obtain ⟨w1,hmk,hz,b1⟩:=OY w N (by omega)
 have hlen:(List.replicate N (0:UInt8)).length=N:=List.length_replicate
 have hz':Pv w1 w.heap.size (.slice (some ⟨w.heap.size,0,none⟩) (List.replicate N (0:UInt8)).length N) (List.replicate N 0):=by rw [hlen];exact hz
 have hr1:EJ w1 u b:=by
  obtain ⟨aa,c,rfl,hc,hx⟩:=hd
  refine ⟨aa,c,rfl,hc,?_⟩
  rcases hx with h|⟨g,o,rfl,hi⟩
  ·exact .inl h
  ·exact .inr ⟨g,o,rfl,fun j hj=>by rw [b1.cell (p:=⟨g,o+j,none⟩) (Ph _ _ _ _ rfl)];exact hi j hj⟩
 have hc1:=fun ty=>hz'.XC hr1 (by rw [hlen];omega) ty
 rw [hlen] at hc1
 have k1:=(hz'.copy rfl 0 b (by rw [hlen];omega) 3).2.1
 have Zr:(List.replicate N (0:UInt8)).take 0 ++ b ++ (List.replicate N (0:UInt8)).drop (0+b.length)=Aj b (a+x.length):=by
  unfold Aj
  simp only [List.take_zero,List.nil_append,Nat.zero_add,List.drop_replicate]
  rw [show N-b.length=a+x.length-b.length by omega]
 rw [Zr,hlen] at k1
 have hpl:(Aj b (a+x.length)).length=N:=by rw [Dg];exact hN
 have k1':Pv (w1.setCells w.heap.size 0 (ED b)) w.heap.size (.slice (some ⟨w.heap.size,0,none⟩) (Aj b (a+x.length)).length N) (Aj b (a+x.length)):=by rw [hpl];exact k1
 have k2:=fun ty=>k1'.copy rfl a x (by rw [hpl];omega) ty
 rw [hpl] at k2
 refine ⟨N,w1,_,_,hN,hmk,hc1,fun W=>?_,fun ty=>(k2 ty).1,(k2 3).2.1.dat,b1,fq (Nat.le_refl _) _ _ _ b1,fq (Nat.le_refl _) _ _ _ (fq (Nat.le_refl _) _ _ _ b1)⟩
 rw [run_slice_l (P:=Tryz.prog) W 300 _ N N wG .i64 (a:Int) (by omega) (by omega),vH,Bb]
 have hne:¬N=a:=by omega
 simp [Result.andThen,sliced,hne,Addr.add]
 omega
section
variable {w w':World}{r gN s:Nat}{T:Wd}{Z:Int→Nat}{B G:Int→Nat}{V:Int→Value}{O:Nat→Prop}
theorem PT.wE (h:PT w r T O) (hT:bq T) (n a:Int) (x:List UInt8) (hw:(Lit.int .i64 n).wf=true) (hxl:x.length<100000) :
 Calls Tryz.prog 147 #[wp r,.int .i64 n,.int .i64 a,tx x] w fun e w'=>e=.returned (aH (cB T n a x))∧∃O',PT w' r (eP T n a x) O'∧Stp w w' O O':=by
 have hfin:cB T n a x≠0∨x=[]→∃O',PT w r (eP T n a x) O'∧Stp w w O O':=fun hh=>⟨O,by unfold eP;rw [if_pos hh];exact h,.refl _ _⟩
 obtain ⟨gN,s,B,G,V,h⟩:=h
 by_cases hz:bF T n=0
 ·obtain ⟨b,y,hn⟩:=kG hz
  have hF:=h.kZ n hw hn
  obtain ⟨_,n1,_⟩:=h.pY hn
  have nf:=h.pq hn 1
  have hEq:cB T n a x=if a<0 then 2 else if 200-(x.length:Int)<a then 4 else 0:=by
   unfold cB;rw [if_neg (fun e=>e hz)]
   by_cases ha:a<0
   ·rw [if_pos ha,if_pos ha]
   ·rw [if_neg ha,if_neg ha]
    by_cases hl:200-(x.length:Int)<a
    ·rw [if_pos (.inr hl),if_pos hl]
    ·rw [if_neg hl,if_neg (fun e=>by rcases e with e|e<;>omega)]
  have hwr:wrap64 (200-(x.length:Int))=200-(x.length:Int):=by unfold wrap64;omega
  by_cases ha:a<0
  ·rw [if_pos ha] at hEq
   rw [hEq]
   have hf:=hfin (.inl (by rw [hEq];decide))
   clear hn hz hEq hT
   go_enter Tryz.func147,Tryz.ntmps147
   go_wp2_with (go_at_call 242;refine hF.mono ?_;rintro e w' ⟨rfl,hw'⟩;subst w')
   go_ret
   exact ⟨rfl,hf⟩
  ·rw [if_neg ha] at hEq
   by_cases hl:200-(x.length:Int)<a
   ·rw [if_pos hl] at hEq
    rw [hEq]
    have hf:=hfin (.inl (by rw [hEq];decide))
    clear hn hz hEq hT
    go_enter Tryz.func147,Tryz.ntmps147
    go_wp2_with (go_at_call 242;refine hF.mono ?_;rintro e w' ⟨rfl,hw'⟩;subst w')
    go_ret
    exact ⟨rfl,hf⟩
   ·rw [if_neg hl] at hEq
    rw [hEq,aC]
    by_cases hx:x=[]
    ·have hf:=hfin (.inr hx)
     subst hx
     clear hn hz hEq hT
     go_enter Tryz.func147,Tryz.ntmps147
     go_wp2_with (go_at_call 242;refine hF.mono ?_;rintro e w' ⟨rfl,hw'⟩;subst w')
     go_ret
     exact ⟨rfl,hf⟩
    ·have hxe:(x == [])=false:=by simp [hx]
     obtain ⟨A,rfl⟩:∃A:Nat,a=A:=⟨a.toNat,by omega⟩
     have hsm:=hT.small n b y hn
     have hdat:=h.data n b y hn
     obtain ⟨N,w1,w2,w3,hN,hmk,hc1,hsl,hc2,hd3,b1,b2,b3⟩:=D7 hdat.rdb (fun g o l c e=>hdat.lt (i:=g) (by rw [e];rfl)) A hx hsm.1 (by omega)
     obtain ⟨u0,c0,hv⟩:=hdat.len
     have m1:=fun ts ty=>Ri ts ty (b.length:Int) ((A:Int)+(x.length:Int)) N (by omega)
     have hwr2:wrap64 ((A:Int)+(x.length:Int))=(A:Int)+(x.length:Int):=by unfold wrap64;omega
     have h3:=h.below b3
     obtain ⟨V',O',h4,hO'⟩:=h3.bytes hn hd3
     have hU:eP T n (A:Int) x=bN T n (.file (Cz b A x) y):=by
      unfold eP;rw [if_neg (fun e=>e.elim (fun e=>e hEq) hx),hn]
      simp
     have Xu:∃O',PT (w3.setCell ⟨B n,1,none⟩ (.slice (some ⟨w.heap.size,0,none⟩) N N)) r (eP T n (A:Int) x) O'∧Stp w (w3.setCell ⟨B n,1,none⟩ (.slice (some ⟨w.heap.size,0,none⟩) N N)) O O':=by
      rw [hU]
      refine ⟨O',⟨gN,s,B,G,V',h4.as rfl (fun k _=>jq hn k)⟩,((Stp.below b3).trans (.cell _ (h.ownB n (by rw [hn];rfl)))).wt,fun i hi=>?_⟩
      rcases (hO' i).1 hi with e|e
      ·exact .inl e
      ·right;cases e;exact Nat.le_refl _
     have c1:w1.cell? ⟨B n,1,none⟩=some (.slice u0 b.length c0):=by rw [b1.cell (p:=⟨B n,1,none⟩) (h.lt _ (h.ownB n (by rw [hn];rfl)))];rw [n1,hv]
     have f3:=h3.pq hn 1
     have c3:=(h3.pY hn).2.1
     rw [hv] at n1 hc1 c3
     clear h4 hU h3 hn hz hEq hT hdat hd3 hfin h hv
     go_enter Tryz.func147,Tryz.ntmps147
     go_wp2_with (go_at_call 242;refine hF.mono ?_;rintro e w' ⟨rfl,hw'⟩;subst w')
     go_ret
     exact ⟨rfl,Xu⟩
 ·have hF:=h.jo n hw hz
  have hEq:cB T n a x=bF T n:=by unfold cB;rw [if_pos hz]
  have hf:=hfin (.inl (by rw [hEq];exact hz))
  rw [hEq,az hz]
  generalize bF T n=z at *
  go_enter Tryz.func147,Tryz.ntmps147
  go_wp2_with (go_at_call 242;refine hF.mono ?_;rintro e w' ⟨rfl,hw'⟩;subst w')
  go_ret
  exact ⟨rfl,hf⟩
end
section
variable {w w':World}{r gN s:Nat}{T:Wd}{Z:Int→Nat}{B G:Int→Nat}{V:Int→Value}{O:Nat→Prop}
theorem PT.Ro (h:PT w r T O) (hT:bq T) (p q:List UInt8) (hp:p.length<100000) (hq:q.length<100000) (m:Int) (hm:w.cell? ⟨4,0,none⟩=some (.int .i64 m)) (hE:nO T p q≠0) :
 Calls Tryz.prog 268 #[wp r,tx p,tx q] w fun e w'=>e=.returned (eZ (nO T p q))∧Below w.heap.size w w':=by
 obtain ⟨gN,s,B,G,V,h⟩:=h
 have hs1:=h.num.pos hT.toTrOk
 have hF:=h.find_ok hT.toTrOk hs1 p hp m hm
 have hsome:=nH hT.toTrOk (p:=p)
 unfold nO at hE ⊢
 by_cases hf:(aO T p).2=0
 ·rw [if_neg (fun e=>e hf)] at hE ⊢
  have hs:=hsome hf
  have hkey:=hT.key _ hs
  have hwf:(Lit.int .i64 (aO T p).1).wf=true:=gW hkey.1 (by omega)
  rw [hf,aC] at hF
  generalize (aO T p).1=n at *
  by_cases hdr:qA T n=true
  ·rw [if_pos hdr] at hE ⊢
   obtain ⟨C,hC⟩:=Kq hdr
   have e6:bF T n=6:=by unfold bF;rw [hC]
   have LQ:=fun w1 (b1:Below w.heap.size w w1)=>(h.below b1).jo n hwf (by rw [e6];decide)
   rw [e6] at LQ
   clear hE hdr
   go_enter Tryz.func268,Tryz.ntmps268
   go_wp2_with (first
    |(go_at_call 307;refine hF.mono ?_;rintro e w1 ⟨rfl,b1⟩;have ES:=LQ w1 b1)
    |(go_at_call 242;refine ES.mono ?_;rintro e w' ⟨rfl,hw'⟩;subst w'))
   go_ret
   exact ⟨rfl,b1⟩
  ·rw [if_neg hdr] at hE ⊢
   obtain ⟨b,x,hn⟩:=xV hs hdr
   have LQ:=fun w1 (b1:Below w.heap.size w w1)=>(h.below b1).kZ n hwf hn
   by_cases hz:(ae T q).2.2=0
   ·rw [if_neg (fun e=>e hz)] at hE ⊢
    cases hh:lM T (ae T q).1 (ae T q).2.1 with
    |none=>rw [hh] at hE;exact absurd (by simp) hE
    |some n'=>
     rw [show (if (some n').isSome=true then (9:Int) else 0)=9 from rfl]
     have sH:=fun w1 (b1:Below w.heap.size w w1)=>(h.below b1).qK hT.toTrOk hs1 q hq m (aR hm b1) hz hh
     clear hE hdr hh hz
     go_enter Tryz.func268,Tryz.ntmps268
     go_wp2_with (first
      |(go_at_call 307;refine hF.mono ?_;rintro e w1 ⟨rfl,b1⟩;have ES:=LQ w1 b1;have sN:=sH w1 b1)
      |(go_at_call 242;refine ES.mono ?_;rintro e w' ⟨rfl,hw'⟩;subst w')
      |(go_at_call 308;refine sN.mono ?_;rintro e w2 ⟨rfl,b2⟩))
     go_ret
     have b9:Below w.heap.size w w2:=b1.trans (b2.mono b1.size)
     refine ⟨rfl,?_⟩
     repeat first|exact b9|refine Below.alloc ?_ (by first|omega|(have:=b9.size;omega) | (simp<;>omega)) _
   ·rw [if_pos hz] at hE ⊢
    have sH:=fun w1 (b1:Below w.heap.size w w1)=>(h.below b1).wR hT.toTrOk hs1 q hq m (aR hm b1) hz
    generalize (ae T q).2.2=z at *
    clear hE hdr
    go_enter Tryz.func268,Tryz.ntmps268
    go_wp2_with (first
     |(go_at_call 307;refine hF.mono ?_;rintro e w1 ⟨rfl,b1⟩;have ES:=LQ w1 b1;have sN:=sH w1 b1)
     |(go_at_call 242;refine ES.mono ?_;rintro e w' ⟨rfl,hw'⟩;subst w')
     |(go_at_call 308;refine sN.mono ?_;rintro e w2 ⟨rfl,b2⟩))
    go_ret
    have b9:Below w.heap.size w w2:=b1.trans (b2.mono b1.size)
    refine ⟨rfl,?_⟩
    repeat first|exact b9|refine Below.alloc ?_ (by first|omega|(have:=b9.size;omega) | (simp<;>omega)) _
 ·rw [if_pos hf] at hE ⊢
  rw [az hf] at hF
  generalize (aO T p).2=z at *
  generalize (aO T p).1=n at *
  clear hsome
  go_enter Tryz.func268,Tryz.ntmps268
  go_wp2_with (go_at_call 307;refine hF.mono ?_;rintro e w1 ⟨rfl,b1⟩)
  go_ret
  exact ⟨rfl,b1⟩
theorem PT.Oe (h:PT w r T O) (hT:bq T) (p q:List UInt8) (hp:p.length<100000) (hq:q.length<100000) (m:Int) (hm:w.cell? ⟨4,0,none⟩=some (.int .i64 m)) (hC:∀k C,T k=some (.dir C)→C.length≤1000) (hE:nO T p q=0) :
 Calls Tryz.prog 268 #[wp r,tx p,tx q] w fun e w'=>e=.returned .nilIface∧PT w' r (lS T p q) O∧Stp w w' O O:=by
 obtain ⟨gN,s,B,G,V,h⟩:=h
 have hs1:=h.num.pos hT.toTrOk
 have mY:=hT.toTrOk
 have hF:=h.find_ok mY hs1 p hp m hm
 obtain ⟨hf,⟨b,x,hn⟩,hz,hnm,C,hd,hl⟩:=xO mY hE
 have hU:lS T p q=fI T (ae T q).1 (ae T q).2.1 (aO T p).1:=by unfold lS;rw [if_neg (fun e=>e hE)]
 have hkey:=hT.key _ (show (T (aO T p).1).isSome=true by rw [hn];rfl)
 have hwf:(Lit.int .i64 (aO T p).1).wf=true:=gW hkey.1 (by omega)
 have LQ:=fun w1 (b1:Below w.heap.size w w1)=>(h.below b1).kZ _ hwf hn
 have sH:=fun w1 (b1:Below w.heap.size w w1)=>(h.below b1).kY mY hs1 q hq m (aR hm b1) hz (by rw [dK hd];exact hl)
 have hcb:=zS hC (aO T p).1
 have hnl:=dQ hnm
 have VQ:=hC _ C hd
 rw [hf,aC] at hF
 rw [hU]
 clear hU hE hf hz
 generalize (ae T q).1=d at *
 generalize (ae T q).2.1=nm at *
 generalize (aO T p).1=n at *
 have YD:=oK mY (nm:=nm) (n:=n) hd
 have hnd:n≠d:=by rintro rfl;rw [hd] at hn;cases hn
 have EH:fI T d nm n n=some (.file b x):=by rw [jf hd,ag _ hnd];exact hn
 have hstep:∀w1,Below w.heap.size w w1→Calls Tryz.prog 309 #[qU (some (G d)) nm,.int .i64 n] w1 fun e w'=>(∃v,e=.returned v)∧dw w' r gN s (fI T d nm n) (aI T) B G V O∧Stp w w' O O:=fun w1 b1=>by
  have h1:=h.below b1
  refine (EU (h1.jS d C hd) (by unfold maxLen;omega) nm (by omega) (by simp only [hl,Option.map_none]) n).mono ?_
  rintro e w2 ⟨hv,sm,g2⟩
  exact ⟨hv,h1.add hd g2 sm,(Stp.below b1).trans (.grown g2 (h1.lI d C hd))⟩
 have hcn:=YD n
 rw [if_pos rfl] at hcn
 have hfin:∀w2,dw w2 r gN s (fI T d nm n) (aI T) B G V O→PT (w2.setCell ⟨B n,2,none⟩ (.int .i64 (aI (fI T d nm n) n:Int))) r (fI T d nm n) O:=fun w2 h2=>
  ⟨gN,s,B,G,V,(h2.count EH (aI (fI T d nm n) n)).as rfl (fun k _=>by
   by_cases e:k=n
   ·rw [if_pos e,e]
   ·rw [if_neg e];have:=YD k;rw [if_neg e] at this;omega)⟩
 have hnc:∀w2,dw w2 r gN s (fI T d nm n) (aI T) B G V O→w2.cell? ⟨B n,2,none⟩=some (.int .i64 (aI T n:Int))∧w2.frozen? ⟨B n,2,none⟩=false∧O (B n):=fun w2 h2=>⟨(h2.GL EH).1,h2.pq EH 2,h2.ownB n (by rw [EH];rfl)⟩
 have hsub:(aI T n:Int)+1=(aI (fI T d nm n) n:Int):=by omega
 have hwr:wrap64 ((aI T n:Int)+1)=(aI (fI T d nm n) n:Int):=by rw [hsub];unfold wrap64;omega
 generalize (aI T n:Int)=ct at *
 generalize (aI (fI T d nm n) n:Int)=cd at *
 generalize fI T d nm n=TT at *
 clear YD hcb hcn mY hT h hC hm hsub EH VQ
 go_enter Tryz.func268,Tryz.ntmps268
 go_wp2_with (first
  |(go_at_call 307;refine hF.mono ?_;rintro e w1 ⟨rfl,b1⟩;have ES:=LQ w1 b1;have sN:=sH w1 b1)
  |(go_at_call 242;refine ES.mono ?_;rintro e w' ⟨rfl,hw'⟩;subst w')
  |(go_at_call 308;refine sN.mono ?_;rintro e w2 ⟨rfl,b2⟩;have b9:Below w.heap.size w (w2.alloc (.cells #[.map (some (G d)),tx nm] 408)):=(b1.trans (b2.mono b1.size)).alloc (Nat.le_trans b1.size b2.size) _;have hS:=hstep _ b9)
  |(go_at_call 309;refine hS.mono ?_;rintro e w3 ⟨⟨v,rfl⟩,h3,vI⟩;obtain ⟨y2,yf,yo⟩:=hnc w3 h3))
 go_ret
 exact ⟨rfl,hfin _ h3,vI.trans (.cell _ yo)⟩
theorem PT.Rn (h:PT w r T O) (hT:bq T) (p q:List UInt8) (hp:p.length<100000) (hq:q.length<100000) (m:Int) (hm:w.cell? ⟨4,0,none⟩=some (.int .i64 m)) (hC:∀k C,T k=some (.dir C)→C.length≤1000) :
 Calls Tryz.prog 268 #[wp r,tx p,tx q] w fun e w'=>e=.returned (aH (nO T p q))∧PT w' r (lS T p q) O∧Stp w w' O O:=by
 by_cases hE:nO T p q=0
 ·rw [hE,aC]
  exact h.Oe hT p q hp hq m hm hC hE
 ·rw [az hE,show lS T p q=T by unfold lS;rw [if_pos hE]]
  refine (h.Ro hT p q hp hq m hm hE).mono ?_
  rintro e w' ⟨rfl,b⟩
  exact ⟨rfl,h.below b,.below b⟩
end
theorem xE (p q:List UInt8) (w:World) :
 Calls Tryz.prog 263 #[tx p,tx q] w fun e w'=>e=.returned (.bool (q.isPrefixOf p))∧w'=w:=
 Any.strings_HasPrefix Tryz.prefixUL ⟨p.toArray⟩ ⟨q.toArray⟩ w
theorem rV {T:Wd}(hT:TrOk T) {p q:List UInt8}(h:eY T p q=0):(ae T p).2.2=0∧isName (ae T p).2.1=true∧(∃C n,T (ae T p).1=some (.dir C)∧C.lookup (ae T p).2.1=some n)∧(ae T q).2.2=0∧isName (ae T q).2.1=true∧(∃C,T (ae T q).1=some (.dir C)∧C.lookup (ae T q).2.1=none)∧(p ++ [47]).isPrefixOf q=false:=by
 unfold eY at h
 by_cases hz:(ae T p).2.2=0
 ·rw [if_neg (fun e=>e hz)] at h
  obtain ⟨⟨C,hd⟩,hnm⟩:=dP hT hz
  by_cases hh:lM T (ae T p).1 (ae T p).2.1=none
  ·rw [if_pos hh] at h;omega
  ·rw [if_neg hh] at h
   rw [dK hd] at hh
   obtain ⟨n,hl⟩:∃n,C.lookup (ae T p).2.1=some n:=by
    cases e:C.lookup (ae T p).2.1 with
    |none=>exact absurd e hh
    |some n=>exact ⟨n,rfl⟩
   by_cases hz2:(ae T q).2.2=0
   ·rw [if_neg (fun e=>e hz2)] at h
    obtain ⟨⟨C2,hd2⟩,Cv⟩:=dP hT hz2
    rw [dK hd2] at h
    cases hl2:C2.lookup (ae T q).2.1 with
    |some n2=>rw [hl2] at h;simp at h
    |none=>
     rw [hl2] at h
     simp only [Option.isSome_none,Bool.false_eq_true,if_false] at h
     refine ⟨hz,hnm,⟨C,n,hd,hl⟩,hz2,Cv,⟨C2,hd2,hl2⟩,?_⟩
     cases e:(p ++ [47]).isPrefixOf q with
     |false=>rfl
     |true=>rw [e] at h;simp at h
   ·rw [if_pos hz2] at h;exact absurd h hz2
 ·rw [if_pos hz] at h;exact absurd h hz
section
variable {w w':World}{r gN s:Nat}{T:Wd}{Z:Int→Nat}{B G:Int→Nat}{V:Int→Value}{O:Nat→Prop}
theorem zW (p:List UInt8):((⟨p.toArray⟩:ByteArray) ++ ⟨#[47]⟩)=⟨(p ++ [47]).toArray⟩:=Jc p [47]
theorem PT.tX (h:PT w r T O) (hT:bq T) (p q:List UInt8) (hp:p.length<100000) (hq:q.length<100000) (m:Int) (hm:w.cell? ⟨4,0,none⟩=some (.int .i64 m)) (hE:eY T p q≠0) :
 Calls Tryz.prog 270 #[wp r,tx p,tx q] w fun e w'=>e=.returned (eZ (eY T p q))∧Below w.heap.size w w':=by
 obtain ⟨gN,s,B,G,V,h⟩:=h
 have hs1:=h.num.pos hT.toTrOk
 unfold eY at hE ⊢
 by_cases hz:(ae T p).2.2=0
 ·rw [if_neg (fun e=>e hz)] at hE ⊢
  cases hh:lM T (ae T p).1 (ae T p).2.1 with
  |none=>
   rw [if_pos rfl]
   have Co:=h.xw hT.toTrOk hs1 p hp m hm hz hh
   clear hE hh
   go_enter Tryz.func270,Tryz.ntmps270
   go_wp2_with (go_at_call 310;refine Co.mono ?_;rintro e w1 ⟨rfl,b1⟩)
   go_ret
   refine ⟨rfl,?_⟩
   repeat first|exact b1|refine Below.alloc ?_ (by first|omega|(have:=b1.size;omega) | (simp<;>omega)) _
  |some n=>
   rw [hh] at hE
   rw [if_neg (by simp)] at hE ⊢
   have Co:=h.nz hT.toTrOk hs1 p hp m hm hz hh
   have PV:∀w1,Below w.heap.size w w1→∀o,Below w.heap.size w (w1.alloc o):=fun w1 b1 o=>b1.alloc b1.size _
   by_cases hz2:(ae T q).2.2=0
   ·rw [if_neg (fun e=>e hz2)] at hE ⊢
    cases V7:lM T (ae T q).1 (ae T q).2.1 with
    |some n'=>
     rw [if_pos (show (some n').isSome=true from rfl)]
     have sH:=fun w1 (b1:Below w.heap.size w w1)=>(h.below b1).qK hT.toTrOk hs1 q hq m (aR hm b1) hz2 V7
     clear hE hh V7 hz hz2
     generalize (ae T p).1=d at *
     generalize (ae T p).2.1=nm at *
     go_enter Tryz.func270,Tryz.ntmps270
     go_wp2_with (first
      |(go_at_call 310;refine Co.mono ?_;rintro e w1 ⟨rfl,b1⟩;have sN:=sH _ (PV w1 b1 (.cells #[.map (some (G d)),tx nm] 408)))
      |(go_at_call 308;refine sN.mono ?_;rintro e w2 ⟨rfl,b2⟩))
     go_ret
     have b8:=PV w1 b1 (.cells #[.map (some (G d)),tx nm] 408)
     have b9:Below w.heap.size w w2:=b8.trans (b2.mono b8.size)
     refine ⟨rfl,?_⟩
     repeat first|exact b9|refine Below.alloc ?_ (by first|omega|(have:=b9.size;omega) | (simp<;>omega)) _
    |none=>
     rw [V7] at hE
     simp only [Option.isSome_none,Bool.false_eq_true,if_false] at hE ⊢
     cases hpx:(p ++ [47]).isPrefixOf q with
     |false=>rw [hpx] at hE;exact absurd (by simp) hE
     |true=>
      rw [if_pos rfl]
      have sH:=fun w1 (b1:Below w.heap.size w w1)=>(h.below b1).kY hT.toTrOk hs1 q hq m (aR hm b1) hz2 V7
      have We:=xE q (p ++ [47])
      rw [hpx] at We
      have ZF:=zW p
      have hbig:¬9223372036854775807<p.length+1:=by omega
      clear hE hh V7 hz hz2 hpx
      generalize (ae T p).1=d at *
      generalize (ae T p).2.1=nm at *
      generalize (ae T q).1=d2 at *
      generalize (ae T q).2.1=Ae at *
      generalize p ++ [47]=p2 at *
      go_enter Tryz.func270,Tryz.ntmps270
      go_wp2_with (first
       |(go_at_call 310;refine Co.mono ?_;rintro e w1 ⟨rfl,b1⟩;have sN:=sH _ (PV w1 b1 (.cells #[.map (some (G d)),tx nm] 408)))
       |(go_at_call 308;refine sN.mono ?_;rintro e w2 ⟨rfl,b2⟩)
       |(go_at_call 263;refine (We _).mono ?_;rintro e w' ⟨rfl,hw'⟩;subst w'))
      go_ret
      have b8:=PV w1 b1 (.cells #[.map (some (G d)),tx nm] 408)
      have b9:Below w.heap.size w w2:=b8.trans (b2.mono b8.size)
      refine ⟨rfl,?_⟩
      repeat first|exact b9|refine Below.alloc ?_ (by first|omega|(have:=b9.size;omega) | (simp<;>omega)) _
   ·rw [if_pos hz2] at hE ⊢
    have sH:=fun w1 (b1:Below w.heap.size w w1)=>(h.below b1).wR hT.toTrOk hs1 q hq m (aR hm b1) hz2
    clear hE hh hz
    generalize (ae T p).1=d at *
    generalize (ae T p).2.1=nm at *
    generalize (ae T q).2.2=z at *
    go_enter Tryz.func270,Tryz.ntmps270
    go_wp2_with (first
     |(go_at_call 310;refine Co.mono ?_;rintro e w1 ⟨rfl,b1⟩;have sN:=sH _ (PV w1 b1 (.cells #[.map (some (G d)),tx nm] 408)))
     |(go_at_call 308;refine sN.mono ?_;rintro e w2 ⟨rfl,b2⟩))
    go_ret
    have b8:=PV w1 b1 (.cells #[.map (some (G d)),tx nm] 408)
    have b9:Below w.heap.size w w2:=b8.trans (b2.mono b8.size)
    refine ⟨rfl,?_⟩
    repeat first|exact b9|refine Below.alloc ?_ (by first|omega|(have:=b9.size;omega) | (simp<;>omega)) _
 ·rw [if_pos hz] at hE ⊢
  have Co:=h.yY hT.toTrOk hs1 p hp m hm hz
  generalize (ae T p).2.2=z at *
  go_enter Tryz.func270,Tryz.ntmps270
  go_wp2_with (go_at_call 310;refine Co.mono ?_;rintro e w1 ⟨rfl,b1⟩)
  go_ret
  refine ⟨rfl,?_⟩
  repeat first|exact b1|refine Below.alloc ?_ (by first|omega|(have:=b1.size;omega) | (simp<;>omega)) _
theorem uG (hT:bq T) {d n d2:Int}{nm Ae:Nm}{C C2:List (Nm×Int)}(hd:T d=some (.dir C)) (hl:C.lookup nm=some n) (hd2:T d2=some (.dir C2)) (hl2:C2.lookup Ae=none) (Cv:isName Ae=true) :
 ∃C3,aW T d nm d2=some (.dir C3)∧C3.lookup Ae=none∧C3.length≤C2.length∧(∀k,aI (fI (aW T d nm) d2 Ae n) k=aI T k)∧bq (fI (aW T d nm) d2 Ae n):=by
 obtain ⟨C3,hd3,hl3,hlen⟩:=RU (d:=d) (nm:=nm) hd2 hl2
 have hok:TrOk (aW T d nm):=hT.toTrOk.del d nm
 have hc:∀k,aI (fI (aW T d nm) d2 Ae n) k=aI T k:=fun k=>by
  rw [oK hok hd3];exact BF hT.toTrOk hd hl k
 have hsome:=hT.child d C nm n hd hl
 have hsd:∀k nd,aW T d nm k=some nd→∃kK,T k=some kK∧dF kK=dF nd:=fun k nd e=>by
  by_cases e1:k=d
  ·subst e1;rw [iJ hd,ak] at e;cases e;exact ⟨_,hd,rfl⟩
  ·rw [iJ hd,ag _ e1] at e;exact ⟨nd,e,rfl⟩
 refine ⟨C3,hd3,hl3,hlen,hc,?_⟩
 refine { toTrOk:=hok.add hd3 hl3 Cv (by rw [K7];exact hsome),nr:=by rw [hc];exact hT.nr,lv:=fun k nd e=>?_ }
 rw [hc]
 have:∃kK,T k=some kK∧dF kK=dF nd:=by
  by_cases e1:k=d2
  ·subst e1;rw [jf hd3,ak] at e;cases e
   obtain ⟨kK,h1,h2⟩:=hsd k _ hd3
   exact ⟨kK,h1,h2⟩
  ·rw [jf hd3,ag _ e1] at e;exact hsd k nd e
 obtain ⟨kK,h1,h2⟩:=this
 rw [←h2]
 exact hT.lv k kK h1
theorem bq.rename (hT:bq T) (p q:List UInt8):bq (ek T p q):=by
 unfold ek
 by_cases hE:eY T p q=0
 ·rw [if_neg (fun e=>e hE)]
  obtain ⟨_,_,⟨C,n,hd,hl⟩,_,Cv,⟨C2,hd2,hl2⟩,_⟩:=rV hT.toTrOk hE
  rw [dK hd,hl]
  obtain ⟨_,_,_,_,_,h⟩:=uG hT hd hl hd2 hl2 Cv
  exact h
 ·rw [if_pos hE];exact hT
theorem PT.qE (h:PT w r T O) (hT:bq T) (p q:List UInt8) (hp:p.length<100000) (hq:q.length<100000) (m:Int) (hm:w.cell? ⟨4,0,none⟩=some (.int .i64 m)) (hC:∀k C,T k=some (.dir C)→C.length≤1000) (hE:eY T p q=0) :
 Calls Tryz.prog 270 #[wp r,tx p,tx q] w fun e w'=>e=.returned .nilIface∧PT w' r (ek T p q) O∧Stp w w' O O:=by
 obtain ⟨gN,s,B,G,V,h⟩:=h
 have hs1:=h.num.pos hT.toTrOk
 have mY:=hT.toTrOk
 obtain ⟨hz,hnm,⟨C,n,hd,hl⟩,hz2,Cv,⟨C2,hd2,hl2⟩,hpx⟩:=rV mY hE
 have hU:ek T p q=fI (aW T (ae T p).1 (ae T p).2.1) (ae T q).1 (ae T q).2.1 n:=by unfold ek;rw [if_neg (fun e=>e hE),dK hd,hl];rfl
 have Co:=h.nz mY hs1 p hp m hm hz (n:=n) (by rw [dK hd];exact hl)
 have sH:=fun w1 (b1:Below w.heap.size w w1)=>(h.below b1).kY mY hs1 q hq m (aR hm b1) hz2 (by rw [dK hd2];exact hl2)
 obtain ⟨C3,hd3,hl3,hlen3,hcc,_⟩:=uG hT hd hl hd2 hl2 Cv
 have We:=xE q (p ++ [47])
 rw [hpx] at We
 have ZF:=zW p
 have hbig:¬9223372036854775807<p.length+1:=by omega
 have hnl:=dQ hnm
 have ads:=dQ Cv
 have VQ:=hC _ C2 hd2
 rw [hU]
 have PV:∀w1,Below w.heap.size w w1→∀o,Below w.heap.size w (w1.alloc o):=fun w1 b1 o=>b1.alloc b1.size _
 clear hU hE hz hz2 hpx
 generalize (ae T p).1=d at *
 generalize (ae T p).2.1=nm at *
 generalize (ae T q).1=d2 at *
 generalize (ae T q).2.1=Ae at *
 generalize p ++ [47]=p2 at *
 have hstep:∀w1,Below w.heap.size w w1→Calls Tryz.prog 311 #[qU (some (G d)) nm] w1 fun e w'=>(∃v,e=.returned v)∧dw w' r gN s (aW T d nm) (aI T) B G V O∧Stp w w' O O∧Stp w1 w' O O:=fun w1 b1=>by
  have h1:=h.below b1
  refine (CR (h1.jS d C hd) nm (by omega) (by simp only [hl,Option.map_some,Option.isSome_some])).mono ?_
  rintro e w2 ⟨hv,sm,g2⟩
  exact ⟨hv,h1.del mY hd (by rw [hl];rfl) g2 sm,(Stp.below b1).trans (.grown g2 (h1.lI d C hd)),.grown g2 (h1.lI d C hd)⟩
 have hstep2:∀w1,dw w1 r gN s (aW T d nm) (aI T) B G V O→Calls Tryz.prog 309 #[qU (some (G d2)) Ae,.int .i64 n] w1 fun e w'=>(∃v,e=.returned v)∧PT w' r (fI (aW T d nm) d2 Ae n) O∧Stp w1 w' O O:=fun w1 h1=>by
  refine (EU (h1.jS d2 C3 hd3) (by unfold maxLen;omega) Ae (by omega) (by simp only [hl3,Option.map_none]) n).mono ?_
  rintro e w2 ⟨hv,sm,g2⟩
  exact ⟨hv,⟨gN,s,B,G,V,(h1.add hd3 g2 sm).as rfl (fun k _=>hcc k)⟩,.grown g2 (h1.lI d2 C3 hd3)⟩
 have hkp:∀ {w1 w2:World}{i:Nat}{c:Array Value},Stp w1 w2 O O→w.heap.size≤i→w1.heap[i]? = some (.cells c 408)→w2.heap[i]? = some (.cells c 408):=fun {w1 w2 i c} st hi hc=>
  (st.wt.block i (Array.getElem?_eq_some_iff.1 hc).1 (fun ho=>by have:=h.lt i ho;omega)).trans hc
 generalize fI (aW T d nm) d2 Ae n=TT at *
 generalize aW T d nm=TD at *
 clear mY hT hC hm hcc hd3 hl3 VQ
 go_enter Tryz.func270,Tryz.ntmps270
 go_wp2_with (first
  |(go_at_call 310;refine Co.mono ?_;rintro e w1 ⟨rfl,b1⟩;have b8:=PV w1 b1 (.cells #[.map (some (G d)),tx nm] 408);have sN:=sH _ b8)
  |(go_at_call 308;refine sN.mono ?_;rintro e w2 ⟨rfl,b2⟩
    have b9:Below w.heap.size w w2:=b8.trans (b2.mono b8.size)
    have b10:=PV w2 b9 (.cells #[.map (some (G d2)),tx Ae] 408)
    have q1:(w2.alloc (.cells #[.map (some (G d2)),tx Ae] 408)).heap[w1.heap.size]? = some (.cells #[.map (some (G d)),tx nm] 408):=j5 ((b2.block _ (by simp)).trans (World.alloc_heap_new _ _)) _
    have q2:(w2.alloc (.cells #[.map (some (G d2)),tx Ae] 408)).heap[w2.heap.size]? = some (.cells #[.map (some (G d2)),tx Ae] 408):=World.alloc_heap_new _ _
    obtain ⟨x0,x1,_,_⟩:=aL q1
    have hS:=hstep _ b10)
  |(go_at_call 263;refine (We _).mono ?_;rintro e w' ⟨rfl,hw'⟩;subst w')
  |(go_at_call 311;refine hS.mono ?_;rintro e w3 ⟨⟨v,rfl⟩,h3,vI,Y8⟩;obtain ⟨y0,y1,_,_⟩:=aL (hkp Y8 b9.size q2);have hS2:=hstep2 w3 h3)
  |(go_at_call 309;refine hS2.mono ?_;rintro e w4 ⟨⟨v,rfl⟩,h4,VC⟩))
 go_ret
 exact ⟨rfl,h4,vI.trans VC⟩
theorem PT.JP (h:PT w r T O) (hT:bq T) (p q:List UInt8) (hp:p.length<100000) (hq:q.length<100000) (m:Int) (hm:w.cell? ⟨4,0,none⟩=some (.int .i64 m)) (hC:∀k C,T k=some (.dir C)→C.length≤1000) :
 Calls Tryz.prog 270 #[wp r,tx p,tx q] w fun e w'=>e=.returned (aH (eY T p q))∧PT w' r (ek T p q) O∧Stp w w' O O:=by
 by_cases hE:eY T p q=0
 ·rw [hE,aC]
  exact h.qE hT p q hp hq m hm hC hE
 ·rw [az hE,show ek T p q=T by unfold ek;rw [if_pos hE]]
  refine (h.tX hT p q hp hq m hm hE).mono ?_
  rintro e w' ⟨rfl,b⟩
  exact ⟨rfl,h.below b,.below b⟩
end
section
variable {w w':World}{r gN s:Nat}{T:Wd}{Z:Int→Nat}{B G:Int→Nat}{V:Int→Value}{O:Nat→Prop}
theorem PT.Oa (h:PT w r T O) (hT:bq T) (hs:di T s) (p:List UInt8) (hp:p.length<100000) (m:Int) (hm:w.cell? ⟨4,0,none⟩=some (.int .i64 m)) (hC:∀k C,T k=some (.dir C)→C.length≤1000) :
 Calls Tryz.prog 267 #[wp r,tx p] w (X8 w r T O s p true):=by
 obtain ⟨gN,s',B,G,V,h⟩:=h
 obtain rfl:=hs.one h.num
 have hsz1:(w.alloc (.map #[] 0)).heap.size=w.heap.size+1:=by simp
 have bA:Below w.heap.size w ((w.alloc (.map #[] 0)).alloc (.cells #[.map (some w.heap.size),.slice none 0 0,.int .i64 0,.int .i64 0] 337)):=((Below.refl _ _).alloc (Nat.le_refl _) _).alloc (by rw [hsz1];omega) _
 have hA:=h.below bA
 have V5:=aR hm bA
 have Wj:=zC w
 have hb:=yU w (.map #[] 0) (.cells #[.map (some w.heap.size),.slice none 0 0,.int .i64 0,.int .i64 0] 337)
 have hsm:SMap ((w.alloc (.map #[] 0)).alloc (.cells #[.map (some w.heap.size),.slice none 0 0,.int .i64 0,.int .i64 0] 337)) w.heap.size 0 (fun _=>none):=(SMap.made w).keep (Below.heap_alloc _ _ _ (by rw [hsz1];omega))
 generalize (w.alloc (.map #[] 0)).alloc (.cells #[.map (some w.heap.size),.slice none 0 0,.int .i64 0,.int .i64 0] 337)=wA at *
 by_cases hE:aZ T s p=0
 ·have hAdd:=hA.IW hT p (w.heap.size+1) w.heap.size true hp m V5 hC hb (fun ho=>by have:=h.lt _ ho;omega) (fun _=>⟨hsm,fun ho=>by have:=h.lt _ ho;omega⟩) hE
  go_enter Tryz.func267,Tryz.ntmps267
  go_wp2_with (first
   |(go_at_call 132;refine Wj.mono ?_;rintro e w' ⟨rfl,hw'⟩;subst w')
   |(go_at_call 306;refine hAdd.mono ?_;rintro e w1 ⟨k,hk,Ua,rfl,h1,Ck⟩))
  go_ret2
  refine .inr ⟨hE,k,_,hk,Ua,rfl,h1,⟨⟨Ck.os.trans bA.os,Ck.tape.trans bA.tape,Ck.output.trans bA.output,Nat.le_trans bA.size Ck.size,fun i hi hn=>?_⟩,fun i hi=>?_⟩⟩
  ·refine (Ck.block i (Nat.lt_of_lt_of_le hi bA.size) (fun ho=>?_)).trans (bA.block i hi)
   rcases ho with ho|rfl|⟨rfl,e⟩
   ·exact hn ho
   ·omega
   ·omega
  ·rcases hi with ho|rfl|⟨rfl,e⟩
   ·exact .inl ho
   ·exact .inr (by omega)
   ·exact .inr (Nat.le_refl _)
 ·have hAdd:=hA.wD hT.toTrOk p (w.heap.size+1) hp m V5 hE
  have hfin:∀e w',e=.returned (.tuple #[.int .i64 0,eZ (aZ T s p)])→Below w.heap.size w w'→X8 w r T O s p true e w':=fun e w' he b=>.inl ⟨hE,he,⟨gN,s,B,G,V,h.below b⟩,.below b⟩
  generalize aZ T s p=z at *
  go_enter Tryz.func267,Tryz.ntmps267
  go_wp2_with (first
   |(go_at_call 132;refine Wj.mono ?_;rintro e w' ⟨rfl,hw'⟩;subst w')
   |(go_at_call 306;refine hAdd.mono ?_;rintro e w1 ⟨rfl,b1⟩))
  go_ret2
  exact hfin _ _ rfl (bA.trans (b1.mono bA.size))
end
end Go.Proofs.YtcfhanoekniaaaaGreatDoor

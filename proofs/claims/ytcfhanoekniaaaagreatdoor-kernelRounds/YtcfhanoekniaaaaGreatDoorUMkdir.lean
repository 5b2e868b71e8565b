/- Package tree: Unlink that takes a name away, by its Go text. -/
import Derived.Test.YtcfhanoekniaaaaGreatDoorUUnlink
import Derived.Lib.BufferRead
import Derived.Laws.IdiomCopy
import Derived.Laws.MakeOwn
set_option maxHeartbeats 4000000
set_option maxRecDepth 100000
namespace Go.Proofs.YtcfhanoekniaaaaGreatDoor
open Go.RowKit Go.Maps
theorem Ci {T:Wd}(hT:TrOk T) {p:List UInt8}(h:eH T p=0):(ae T p).2.2=0∧isName (ae T p).2.1=true∧∃C n,T (ae T p).1=some (.dir C)∧C.lookup (ae T p).2.1=some n∧nY T n=0:=by
 unfold eH at h
 by_cases hz:(ae T p).2.2=0
 ·rw [if_neg (fun e=>e hz)] at h
  obtain ⟨⟨C,hd⟩,hnm⟩:=dV hT hz
  rw [dR hd] at h
  cases hl:C.lookup (ae T p).2.1 with
  |none=>rw [hl] at h;simp at h
  |some n=>
   rw [hl] at h
   simp only at h
   refine ⟨hz,hnm,C,n,hd,hl,?_⟩
   by_cases hm:nY T n=0
   ·exact hm
   ·rw [if_pos hm] at h;omega
 ·rw [if_pos hz] at h;exact absurd h hz
section
variable {w w':World}{r gN s:Nat}{T:Wd}{Z:Int→Nat}{B G:Int→Nat}{V:Int→Value}{O:Nat→Prop}
theorem PT.qJ (h:PT w r T O) (hT:bE T) (p:List UInt8) (hp:p.length<100000) (m:Int) (hm:w.cell? ⟨4,0,none⟩=some (.int .i64 m)) (hC:∀k C,T k=some (.dir C)→C.length≤1000) (hE:eH T p=0) :
 Calls Tryz.prog 269 #[wp r,tx p] w fun e w'=>e=.returned .nilIface∧PT w' r (eG T p) O∧Stp w w' O O:=by
 obtain ⟨gN,s,B,G,V,h⟩:=h
 have hs1:=h.num.pos hT.toTrOk
 obtain ⟨hz,hnm,C,n,hd,hl,hmz⟩:=Ci hT.toTrOk hE
 have hU:eG T p=gY (bg T (ae T p).1 (ae T p).2.1):=by unfold eG;rw [if_neg (fun e=>e hE)]
 have CF:=h.nK hT.toTrOk hs1 p hp m hm hz (n:=n) (by rw [dR hd];exact hl)
 obtain ⟨hnd,hn0,hc1,hdn,ht⟩:=uP hT hd hl hmz
 have hcd:=BU hT.toTrOk hd hl
 have hsome:=hT.child _ C _ n hd hl
 obtain ⟨nd,hn⟩:∃nd,T n=some nd:=by
  cases e:T n with
  |none=>rw [e] at hsome;cases hsome
  |some nd=>exact ⟨nd,rfl⟩
 obtain ⟨hsw,_⟩:=ht nd hn
 rw [hU,hsw]
 have hkey:=hT.key n hsome
 have hwf:(Lit.int .i64 n).wf=true:=iy hkey.1 (by omega)
 have hcb:=Ag hC n
 have hcn:=hcd n
 rw [if_pos rfl] at hcn
 have hnl:=dW hnm
 clear hU hz hE hsw ht
 generalize (ae T p).1=d at *
 generalize (ae T p).2.1=nm at *
 have nu:=hT.toTrOk
 -- what lies behind the place's box
 have hstep:∀w1,Below w.heap.size w w1→Calls Tryz.prog 311 #[qZ (some (G d)) nm] w1 fun e w'=>(∃v,e=.returned v)∧dB w' r gN s (bg T d nm) (aL T) B G V O∧Stp w w' O O:=fun w1 b1=>by
  have h1:=h.below b1
  refine (Dh (h1.kr d C hd) nm (by omega) (by simp only [hl,Option.map_some,Option.isSome_some])).mono ?_
  rintro e w2 ⟨hv,sm,g2⟩
  exact ⟨hv,h1.del nu hd (by rw [hl];rfl) g2 sm,(Stp.below b1).trans (.grown g2 (h1.lQ d C hd))⟩
 have hZ:∀k,(bg T d nm k).isSome=true→(if k=n then aL (bg T d nm) n else aL T k)=aL (bg T d nm) k:=fun k _=>by
  by_cases e:k=n
  ·rw [if_pos e,e]
  ·rw [if_neg e];have:=hcd k;rw [if_neg e] at this;omega
 have hset:∀w2,dB w2 r gN s (bg T d nm) (aL T) B G V O→Calls Tryz.prog 312 #[wp r,.int .i64 n] (w2.setCell ⟨B n,2,none⟩ (.int .i64 (aL (bg T d nm) n:Int))) fun e w'=>(∃v,e=.returned v)∧PT w' r (if aL (bg T d nm) n=0∧dL nd=0 then oh (bg T d nm) n else bg T d nm) O∧Stp (w2.setCell ⟨B n,2,none⟩ (.int .i64 (aL (bg T d nm) n:Int))) w' O O:=fun w2 h2=>by
  exact (h2.count (k:=n) (nd:=nd) (by rw [hdn];exact hn) (aL (bg T d nm) n)).xK n hwf (by rw [hdn];exact hn) hc1 hZ
 have hnc:∀w2,dB w2 r gN s (bg T d nm) (aL T) B G V O→w2.cell? ⟨B n,2,none⟩=some (.int .i64 (aL T n:Int))∧w2.frozen? ⟨B n,2,none⟩=false∧O (B n):=fun w2 h2=>⟨(h2.Hq (k:=n) (nd:=nd) (by rw [hdn];exact hn)).1,h2.pG (k:=n) (nd:=nd) (by rw [hdn];exact hn) 2,h2.ownB n (by rw [hdn,hn];rfl)⟩
 have hsub:(aL T n:Int)-1=(aL (bg T d nm) n:Int):=by omega
 have hwr:wrap64 ((aL T n:Int)-1)=(aL (bg T d nm) n:Int):=by rw [hsub];unfold wrap64;omega
 generalize (if aL (bg T d nm) n=0∧dL nd=0 then oh (bg T d nm) n else bg T d nm)=TT at *
 have hlen:∀w1,Below w.heap.size w w1→(∃b x,nd=.file b x∧w1.cell? ⟨B n,0,none⟩=some (.map none))∨∃D,nd=.dir D∧w1.cell? ⟨B n,0,none⟩=some (.map (some (G n)))∧SMap w1 (G n) 0 (fun i=>(D.lookup i).map (.int .i64 ·)):=fun w1 b1=>by
  have h1:=h.below b1
  cases nd with
  |file b x=>exact .inl ⟨b,x,rfl,(h1.qg hn).1⟩
  |dir D=>
   have h0:D.length=0:=by unfold nY at hmz;rw [hn] at hmz;exact hmz
   have:=h1.kr n D hn
   rw [h0] at this
   exact .inr ⟨D,rfl,(h1.ze hn).1,this⟩
 have Hz:∀w1,Below w.heap.size w w1→(Instr.lookup 204 (.map (some gN)) (.int .i64 n) false).run Tryz.prog w1=.ok (wp (B n)) w1∧w1.cell? ⟨r,0,none⟩=some (.map (some gN)):=fun w1 b1=>by
  have h1:=h.below b1
  have:=h1.look n hwf
  rw [hn] at this
  simp only [Option.isSome_some,if_true] at this
  exact ⟨this,h1.c0⟩
 generalize (aL T n:Int)=ct at *
 generalize (aL (bg T d nm) n:Int)=cd at *
 clear hcd hcb hcn hc1 hZ hl hmz hsome hdn nu hT h hC hm hsub
 go_enter Tryz.func269,Tryz.ntmps269
 go_upto_region 2 with (go_at_call 310;refine CF.mono ?_;rintro e w1 ⟨rfl,b1⟩)
 have bA:Below w.heap.size w (w1.alloc (.cells #[.map (some (G d)),tx nm] 408)):=b1.alloc b1.size _
 obtain ⟨hlk,c0⟩:=Hz _ bA
 have hU:=hstep _ bA
 rcases hlen _ bA with ⟨b,x,_,z0⟩|⟨D,_,z0,CG⟩
 ·have hl0:=KP
  go_wp2_with
   (first
     |(go_at_call 311;refine hU.mono ?_;rintro e w2 ⟨⟨v,rfl⟩,h2,st2⟩;obtain ⟨y2,yf,yo⟩:=hnc w2 h2;have hS:=hset w2 h2)
     |(go_at_call 312;refine hS.mono ?_;rintro e w3 ⟨⟨v3,rfl⟩,h3,vT⟩))
  go_ret
  exact ⟨rfl,h3,(st2.trans (.cell _ yo)).trans vT⟩
 ·go_wp2_with
   (first
     |(go_at_call 311;refine hU.mono ?_;rintro e w2 ⟨⟨v,rfl⟩,h2,st2⟩;obtain ⟨y2,yf,yo⟩:=hnc w2 h2;have hS:=hset w2 h2)
     |(go_at_call 312;refine hS.mono ?_;rintro e w3 ⟨⟨v3,rfl⟩,h3,vT⟩)
     |(refine uN rfl _ 262 rfl 3 Tryz.underlying262 (G n) _ _ rfl CG ?_))
  go_ret
  exact ⟨rfl,h3,(st2.trans (.cell _ yo)).trans vT⟩
theorem PT.JU (h:PT w r T O) (hT:bE T) (p:List UInt8) (hp:p.length<100000) (m:Int) (hm:w.cell? ⟨4,0,none⟩=some (.int .i64 m)) (hC:∀k C,T k=some (.dir C)→C.length≤1000) :
 Calls Tryz.prog 269 #[wp r,tx p] w fun e w'=>e=.returned (aJ (eH T p))∧PT w' r (eG T p) O∧Stp w w' O O:=by
 by_cases hE:eH T p=0
 ·rw [hE,aD]
  exact h.qJ hT p hp m hm hC hE
 ·rw [aB hE,show eG T p=T by unfold eG;rw [if_pos hE]]
  refine (h.uf hT p hp m hm hE).mono ?_
  rintro e w' ⟨rfl,b⟩
  exact ⟨rfl,h.below b,.below b⟩
end
theorem yj {T:Wd}{n:Int}(hs:(T n).isSome=true) (h:¬qE T n=true):∃b x,T n=some (.file b x):=by
 unfold qE at h
 cases e:T n with
 |none=>rw [e] at hs;cases hs
 |some nd=>cases nd with
  |dir C=>rw [e] at h;exact absurd rfl h
  |file b x=>exact ⟨b,x,rfl⟩
theorem K3 {T:Wd}{n:Int}(h:qE T n=true):∃C,T n=some (.dir C):=by
 unfold qE at h
 cases e:T n with
 |none=>rw [e] at h;cases h
 |some nd=>cases nd with
  |dir C=>exact ⟨C,rfl⟩
  |file b x=>rw [e] at h;cases h
section
variable {T:Wd}
theorem xX (hT:TrOk T) {p q:List UInt8}(h:nZ T p q=0):(aS T p).2=0∧(∃b x,T (aS T p).1=some (.file b x))∧(ae T q).2.2=0∧isName (ae T q).2.1=true∧∃C,T (ae T q).1=some (.dir C)∧C.lookup (ae T q).2.1=none:=by
 unfold nZ at h
 by_cases hf:(aS T p).2=0
 ·rw [if_neg (fun e=>e hf)] at h
  by_cases hdr:qE T (aS T p).1=true
  ·rw [if_pos hdr] at h;omega
  ·rw [if_neg hdr] at h
   by_cases hz:(ae T q).2.2=0
   ·rw [if_neg (fun e=>e hz)] at h
    obtain ⟨⟨C,hd⟩,hnm⟩:=dV hT hz
    rw [dR hd] at h
    refine ⟨hf,yj (nP hT hf) hdr,hz,hnm,C,hd,?_⟩
    cases hl:C.lookup (ae T q).2.1 with
    |none=>rfl
    |some n=>rw [hl] at h;simp at h
   ·rw [if_pos hz] at h;exact absurd h hz
 ·rw [if_pos hf] at h;exact absurd h hf
theorem bE.add (hT:bE T) {d n:Int}{nm:Nm}{C:List (Nm×Int)}(hd:T d=some (.dir C)) (hl:C.lookup nm=none) (hnm:isName nm=true) (hn:(T n).isSome=true) (h0:n≠0):bE (fT T d nm n):=
 { toTrOk:=hT.toTrOk.add hd hl hnm hn
   nr:=by rw [oU hT.toTrOk hd,if_neg (Ne.symm h0)];exact hT.nr
   lv:=fun k nd e=>by
    rw [oU hT.toTrOk hd]
    rw [jo hd] at e
    by_cases e1:k=d
    ·subst e1
     rw [ak] at e;cases e
     rcases hT.lv k _ hd with e2|e2|e2
     ·exact .inl e2
     ·exact .inr (.inl (by omega))
     ·exact absurd rfl e2
    ·rw [ah _ e1] at e
     rcases hT.lv k nd e with e2|e2|e2
     ·exact .inl e2
     ·exact .inr (.inl (by omega))
     ·exact .inr (.inr e2) }
theorem bE.link (hT:bE T) (p q:List UInt8):bE (lY T p q):=by
 unfold lY
 by_cases hE:nZ T p q=0
 ·rw [if_neg (fun e=>e hE)]
  obtain ⟨_,⟨b,x,hn⟩,_,hnm,C,hd,hl⟩:=xX hT.toTrOk hE
  exact hT.add hd hl hnm (by rw [hn];rfl) (BO hT.toTrOk hn)
 ·rw [if_pos hE];exact hT
end
section
variable {w w':World}{r gN s:Nat}{T:Wd}{Z:Int→Nat}{B G:Int→Nat}{V:Int→Value}{O:Nat→Prop}
theorem dB.new (h:dB w r gN s T Z B G V O) {k:Int}{b g z:Nat}{nd:Nd}(hk:T k=none) (hg:w.grownBy w' (some gN)) (pm:aG w' gN (s+1) (fun i=>if i=k then some (wp b) else (T i).map (fun _=>wp (B i))))
 (TU:w.heap[b]? = some (.cells (dM (fun _=>g) (fun _=>.slice none 0 0) (fun _=>z) k nd) 337)) (Un:¬O b) (hnd:(nd=.dir []∧SMap w g 0 (fun _=>none)∧¬O g)∨nd=.file [] 0) :
 dB w' r gN (s+1) (bQ T k nd) (fun i=>if i=k then z else Z i) (fun i=>if i=k then b else B i) (fun i=>if i=k then g else G i) (fun i=>if i=k then .slice none 0 0 else V i) (fun i=>O i∨i=b∨(i=g∧nd=.dir [])):=by
 obtain ⟨es,cl,hm⟩:=h.map.isMap
 have hkp:∀i,i<w.heap.size→i≠gN→w'.heap[i]? = w.heap[i]? := fun i hi hne=>hg.block i hi (fun e=>hne (Option.some.inj e))
 have hbl:b<w.heap.size:=(Array.getElem?_eq_some_iff.1 TU).1
 have hbN:b≠gN:=fun e=>Un (by rw [e];exact h.qz)
 have hne:∀i kU,T i=some kU→i≠k:=fun i kU e e1=>by rw [e1,hk] at e;cases e
 have hold:∀i kU,bQ T k nd i=some kU→(i=k∧kU=nd)∨(i≠k∧T i=some kU):=fun i kU e=>by
  by_cases e1:i=k
  ·subst e1;rw [ak] at e;cases e;exact .inl ⟨rfl,rfl⟩
  ·rw [ah _ e1] at e;exact .inr ⟨e1,e⟩
 have hsm:∀i,(bQ T k nd i).isSome=true→i=k∨(i≠k∧(T i).isSome=true):=fun i e=>by
  by_cases e1:i=k
  ·exact .inl e1
  ·rw [ah _ e1] at e;exact .inr ⟨e1,e⟩
 refine ⟨(hkp r (h.lt _ h.vX) (fun e=>by rw [←e,h.head] at hm;cases hm)).trans h.head,?_,fun i kU e=>?_,fun i C e=>?_,fun i c x e=>?_,fun i C e=>?_,fun i i' C C' e e' hG=>?_,fun i i' e e' hB=>?_,.inl h.vX,.inl h.qz,fun i e=>?_,fun i C e=>?_,fun i c x j e hj=>?_,fun i hi=>?_⟩
 ·have e:(fun i=>if i=k then some (wp b) else (T i).map (fun _=>wp (B i)))=fun i=>(bQ T k nd i).map (fun _=>wp (if i=k then b else B i)):=by
   funext i
   by_cases e1:i=k
   ·subst e1;rw [ak,if_pos rfl];simp
   ·rw [ah _ e1,if_neg e1];simp [e1]
  rw [e] at pm
  exact pm
 ·rcases hold i kU e with ⟨rfl,rfl⟩|⟨e1,e⟩
  ·simp only [if_true]
   have e2:dM (fun j=>if j=i then g else G j) (fun j=>if j=i then .slice none 0 0 else V j) (fun j=>if j=i then z else Z j) i kU=dM (fun _=>g) (fun _=>.slice none 0 0) (fun _=>z) i kU:=by cases kU<;>simp [dM]
   rw [e2]
   exact (hkp b hbl hbN).trans TU
  ·simp only [if_neg e1]
   have e2:dM (fun j=>if j=k then g else G j) (fun j=>if j=k then .slice none 0 0 else V j) (fun j=>if j=k then z else Z j) i kU=dM G V Z i kU:=by cases kU<;>simp [dM,e1]
   rw [e2]
   exact (hkp _ (h.lt _ (h.ownB i (by rw [e];rfl))) (fun e3=>by rw [←e3,h.node i kU e] at hm;cases hm)).trans (h.node i kU e)
 ·rcases hold i _ e with ⟨rfl,e9⟩|⟨e1,e⟩
  ·simp only [if_true]
   rcases hnd with ⟨e8,hS,Um⟩|e8
   ·rw [e8] at e9;cases e9
    exact hS.keep (hkp g hS.lt (fun e7=>Um (by rw [e7];exact h.qz)))
   ·rw [e8] at e9;cases e9
  ·simp only [if_neg e1]
   exact (h.kr i C e).keep (hkp _ (h.kr i C e).lt (h.sep i C e))
 ·rcases hold i _ e with ⟨rfl,e9⟩|⟨e1,e⟩
  ·simp only [if_true]
   rcases hnd with ⟨e8,_⟩|e8
   ·rw [e8] at e9;cases e9
   ·rw [e8] at e9;cases e9;exact .inl ⟨rfl,rfl⟩
  ·simp only [if_neg e1]
   exact (h.data i c x e).grown hg (fun y hy=>by rw [oW hm] at hy;cases hy)
 ·rcases hold i _ e with ⟨rfl,e9⟩|⟨e1,e⟩
  ·simp only [if_true]
   rcases hnd with ⟨_,_,Um⟩|e8
   ·exact fun e7=>Um (by rw [e7];exact h.qz)
   ·rw [e8] at e9;cases e9
  ·simp only [if_neg e1]
   exact h.sep i C e
 ·have hg2:∀j D,j≠k→T j=some (.dir D)→nd=.dir []→G j≠g:=fun j D _ hj e8 e7=>by
   rcases hnd with ⟨_,_,Um⟩|e9
   ·exact Um (by rw [←e7];exact h.lQ j D hj)
   ·rw [e9] at e8;cases e8
  have hdn:∀D,Nd.dir D=nd→nd=.dir []:=fun D e9=>by
   rcases hnd with ⟨e8,_⟩|e8
   ·exact e8
   ·rw [e8] at e9;cases e9
  rcases hold i _ e with ⟨e1,e9⟩|⟨e1,e⟩
  ·rcases hold i' _ e' with ⟨yG,e9'⟩|⟨yG,e'⟩
   ·rw [e1,yG]
   ·rw [if_pos e1,if_neg yG] at hG
    exact absurd hG.symm (hg2 i' C' yG e' (hdn C e9))
  ·rcases hold i' _ e' with ⟨yG,e9'⟩|⟨yG,e'⟩
   ·rw [if_neg e1,if_pos yG] at hG
    exact absurd hG (hg2 i C e1 e (hdn C' e9'))
   ·rw [if_neg e1,if_neg yG] at hG
    exact h.inj i i' C C' e e' hG
 ·rcases hsm i e with e1|⟨e1,e⟩
  ·rcases hsm i' e' with yG | ⟨yG,e'⟩
   ·rw [e1,yG]
   ·simp only [if_pos e1,if_neg yG] at hB
    exact absurd (by rw [hB];exact h.ownB i' e') Un
  ·rcases hsm i' e' with yG | ⟨yG,e'⟩
   ·simp only [if_neg e1,if_pos yG] at hB
    exact absurd (by rw [←hB];exact h.ownB i e) Un
   ·simp only [if_neg e1,if_neg yG] at hB
    exact h.Jt i i' e e' hB
 ·rcases hsm i e with e1|⟨e1,e⟩
  ·simp only [if_pos e1];exact .inr (.inl trivial)
  ·simp only [if_neg e1];exact .inl (h.ownB i e)
 ·rcases hold i _ e with ⟨e1,e9⟩|⟨e1,e⟩
  ·simp only [if_pos e1]
   rcases hnd with ⟨e8,_⟩|e8
   ·exact .inr (.inr ⟨trivial,e8⟩)
   ·rw [e8] at e9;cases e9
  ·simp only [if_neg e1];exact .inl (h.lQ i C e)
 ·rcases hold i _ e with ⟨e1,_⟩|⟨e1,e⟩
  ·simp only [if_pos e1] at hj;cases hj
  ·simp only [if_neg e1] at hj;exact .inl (h.CO i c x j e hj)
 ·rcases hi with hi|rfl|⟨rfl,e8⟩
  ·exact Nat.lt_of_lt_of_le (h.lt i hi) hg.size
  ·exact Nat.lt_of_lt_of_le hbl hg.size
  ·rcases hnd with ⟨_,hS,_⟩|e9
   ·exact Nat.lt_of_lt_of_le hS.lt hg.size
   ·rw [e9] at e8;cases e8
theorem Pg (hT:TrOk T) {k:Int}(hk:T k=none) (h0:k≠0):aL T k=0:=by
 by_cases e:aL T k=0
 ·exact e
 ·rcases (lC hT k).2 (.inr e) with e1|⟨d,C,sx,hd,hl⟩
  ·exact absurd e1 h0
  ·have:=hT.child d C sx k hd hl
   rw [hk] at this;cases this
theorem KE (dir:Bool) (k:Int):cnt1 (some (eZ dir)) k=0:=by cases dir<;>rfl
theorem zR (hT:bE T) {d k:Int}{nm:Nm}{C:List (Nm×Int)}(dir:Bool) (hd:T d=some (.dir C)) (hl:C.lookup nm=none) (hnm:isName nm=true) (hk:T k=none) (h0:0≤k) (h1:k<64) :
 d≠k∧bQ T k (eZ dir) d=some (.dir C)∧(∀i,aL (fT (bQ T k (eZ dir)) d nm k) i=if i=k then 1 else aL T i)∧bE (fT (bQ T k (eZ dir)) d nm k):=by
 have hdk:d≠k:=by rintro rfl;rw [hk] at hd;cases hd
 have hk0:k≠0:=by rintro rfl;obtain ⟨D,e⟩:=hT.root;rw [e] at hk;cases hk
 have hd':bQ T k (eZ dir) d=some (.dir C):=by rw [ah _ hdk];exact hd
 have hok:=hT.toTrOk.new hk h0 h1 dir
 have hcs:=Cw (x:=eZ dir) hk (KE dir)
 have hc:∀i,aL (fT (bQ T k (eZ dir)) d nm k) i=if i=k then 1 else aL T i:=fun i=>by
  rw [oU hok hd',hcs]
  by_cases e:i=k
  ·rw [if_pos e,if_pos e,e,Pg hT.toTrOk hk hk0]
  ·rw [if_neg e,if_neg e,Nat.add_zero]
 refine ⟨hdk,hd',hc,?_⟩
 refine { toTrOk:=hok.add hd' hl hnm (by rw [ak];rfl),nr:=by rw [hc,if_neg (Ne.symm hk0)];exact hT.nr,lv:=fun i nd e=>?_ }
 rw [hc]
 by_cases e1:i=k
 ·rw [if_pos e1];exact .inr (.inl (by decide))
 ·rw [if_neg e1]
  rw [jo hd'] at e
  by_cases e2:i=d
  ·subst e2
   rw [ak] at e;cases e
   rcases hT.lv i _ hd with e3|e3|e3
   ·exact .inl e3
   ·exact .inr (.inl e3)
   ·exact absurd rfl e3
  ·rw [ah _ e2,ah _ e1] at e;exact hT.lv i nd e
end
section
variable {w w':World}{r gN s:Nat}{T:Wd}{Z:Int→Nat}{B G:Int→Nat}{V:Int→Value}{O:Nat→Prop}
theorem Rn (b:Nat) (w:World):(binOp BinOp.neq 202 (wp b) (.pointer none)).run Tryz.prog w=.ok (.bool true) w:=by kernel_rfl
theorem Oi (w:World):(binOp BinOp.neq 202 (.pointer none) (.pointer none)).run Tryz.prog w=.ok (.bool false) w:=by kernel_rfl
theorem dB.wM (h:dB w r gN s T Z B G V O) (hT:TrOk T) (p:List UInt8) (b:Nat) (hp:p.length<100000) (m:Int) (hm:w.cell? ⟨4,0,none⟩=some (.int .i64 m)) (hE:bC T s p≠0) :
 Calls Tryz.prog 306 #[wp r,tx p,wp b] w fun e w'=>e=.returned (.tuple #[.int .i64 0,eX (bC T s p)])∧Below w.heap.size w w':=by
 have hs1:=h.num.pos hT
 unfold bC at hE ⊢
 by_cases hz:(ae T p).2.2=0
 ·rw [if_neg (fun e=>e hz)] at hE ⊢
  cases hh:lW T (ae T p).1 (ae T p).2.1 with
  |some n=>
   rw [if_pos (show (some n).isSome=true from rfl)]
   have sS:=h.qQ hT hs1 p hp m hm hz hh
   clear hE hh hz
   go_enter Tryz.func306,Tryz.ntmps306
   go_wp2_with (go_at_call 308;refine sS.mono ?_;rintro e w1 ⟨rfl,b1⟩)
   go_ret2
   refine ⟨rfl,?_⟩
   repeat first|exact b1|refine Below.alloc ?_ (by first|omega|(have:=b1.size;omega) | (simp<;>omega)) _
  |none=>
   rw [hh] at hE
   simp only [Option.isSome_none,Bool.false_eq_true,if_false] at hE ⊢
   have h60:60≤s:=by
    by_cases e:60≤s
    ·exact e
    ·rw [if_neg e] at hE;exact absurd rfl hE
   rw [if_pos h60]
   have sS:=h.lD hT hs1 p hp m hm hz hh
   have h6:(60:Int)≤(s:Int):=by omega
   clear hE hh hz h60
   generalize (ae T p).1=d at *
   generalize (ae T p).2.1=nm at *
   go_enter Tryz.func306,Tryz.ntmps306
   go_wp2_with (first
    |(go_at_call 308;refine sS.mono ?_;rintro e w1 ⟨rfl,b1⟩;have h1:=h.below (b1.alloc b1.size (.cells #[.map (some (G d)),tx nm] 408));have c0:=h1.c0;have hmap:=h1.map)
    |(refine gD rfl _ 204 rfl 202 Tryz.underlying204 gN _ _ rfl hmap ?_))
   go_ret2
   refine ⟨rfl,?_⟩
   repeat first|exact b1|refine Below.alloc ?_ (by first|omega|(have:=b1.size;omega) | (simp<;>omega)) _
 ·rw [if_pos hz] at hE ⊢
  have sS:=h.xc hT hs1 p hp m hm hz
  generalize (ae T p).2.2=z at *
  go_enter Tryz.func306,Tryz.ntmps306
  go_wp2_with (go_at_call 308;refine sS.mono ?_;rintro e w1 ⟨rfl,b1⟩)
  go_ret2
  refine ⟨rfl,?_⟩
  repeat first|exact b1|refine Below.alloc ?_ (by first|omega|(have:=b1.size;omega) | (simp<;>omega)) _
theorem zO {b g:Nat}{k:Int}{dir:Bool}(h:w.heap[b]? = some (.cells #[if dir=true then .map (some g) else .map none,.slice none 0 0,.int .i64 0,.int .i64 0] 337)) :
 (w.setCell ⟨b,2,none⟩ (.int .i64 1)).heap[b]? = some (.cells (dM (fun _=>g) (fun _=>.slice none 0 0) (fun _=>1) k (eZ dir)) 337)∧(w.cell? ⟨b,2,none⟩).isSome=true∧w.frozen? ⟨b,2,none⟩=false:=by
 refine ⟨?_,?_,by simp [World.frozen?,h]⟩
 ·rw [aR w b 2 _ _ _ _ h]
  cases dir<;>simp [dM,eZ]
 ·rw [cell_of_row w b 2 _ _ _ h];rfl
theorem dB.Jk (h:dB w r gN s T (aL T) B G V O) (hT:bE T) (p:List UInt8) (b g:Nat) (dir:Bool) (hp:p.length<100000) (m:Int) (hm:w.cell? ⟨4,0,none⟩=some (.int .i64 m)) (hC:∀k C,T k=some (.dir C)→C.length≤1000)
 (hb:w.heap[b]? = some (.cells #[if dir=true then .map (some g) else .map none,.slice none 0 0,.int .i64 0,.int .i64 0] 337)) (Un:¬O b) (hgd:dir=true→SMap w g 0 (fun _=>none)∧¬O g) (hE:bC T s p=0) :
 Calls Tryz.prog 306 #[wp r,tx p,wp b] w fun e w'=>∃k,gZ T k∧k<64∧e=.returned (.tuple #[.int .i64 k,.nilIface])∧PT w' r (iD T p dir k) (fun i=>O i∨i=b∨(i=g∧eZ dir=.dir []))∧Wt (fun i=>O i∨i=b∨(i=g∧eZ dir=.dir [])) w w':=by
 have nu:=hT.toTrOk
 have hs1:=h.num.pos nu
 have UC:=h.num
 obtain ⟨hz,⟨C,hd,hl⟩,hnm,Xm⟩:=kN nu hE
 have sS:=h.lD nu hs1 p hp m hm hz (by rw [dR hd];exact hl)
 have hnl:=dW hnm
 have Wy:=hC _ C hd
 have h6:¬(60:Int)≤(s:Int):=by omega
 unfold iD
 clear hz hE
 generalize (ae T p).1=d at *
 generalize (ae T p).2.1=nm at *
 obtain ⟨OO,Yw⟩:∃OO:Nat→Prop,(fun i=>O i∨i=b∨(i=g∧eZ dir=.dir []))=OO:=⟨_,rfl⟩
 rw [Yw]
 have hO1:∀i,O i→OO i:=fun i hi=>by rw [←Yw];exact .inl hi
 have hOb:OO b:=by rw [←Yw];exact .inr (.inl rfl)
 -- the turns, ahead of the walk
 have hput:∀(k:Int) w1,Below w.heap.size w w1→T k=none→0≤k→k<64→∃w2,(Instr.mapUpdate 204 (.map (some gN)) (.int .i64 k) (wp b)).run Tryz.prog (w1.setCell ⟨b,2,none⟩ (.int .i64 1))=.ok () w2∧
  dB w2 r gN (s+1) (bQ T k (eZ dir)) (fun i=>if i=k then 1 else aL T i) (fun i=>if i=k then b else B i) (fun i=>if i=k then g else G i) (fun i=>if i=k then .slice none 0 0 else V i) OO∧Wt OO w w2∧∀i,w.heap.size≤i→i<w1.heap.size→w2.heap[i]? = w1.heap[i]? := fun k w1 b1 hk h0 h1=>by
  have hbl:b<w.heap.size:=(Array.getElem?_eq_some_iff.1 hb).1
  have hb1:=(b1.block b hbl).trans hb
  obtain ⟨hnc,_,_⟩:=zO (k:=k) hb1
  have gc:w1.grownBy (w1.setCell ⟨b,2,none⟩ (.int .i64 1)) (some b):=⟨rfl,rfl,rfl,by simp [World.setCell],fun i _ hne=>Below.heap_setCell _ _ _ _ (fun e=>hne (by rw [e]))⟩
  have h2:dB (w1.setCell ⟨b,2,none⟩ (.int .i64 1)) r gN s T (aL T) B G V O:=(h.below b1).keep (fun i hi=>gc.block i (Nat.lt_of_lt_of_le (h.lt i hi) b1.size) (fun e=>Un (by rw [←Option.some.inj e];exact hi))) gc.size
  obtain ⟨w2,hrun,pm,g2⟩:=h2.map.put Tryz.underlying204 (by unfold maxLen;omega) k (iy h0 (by omega)) (wp b)
  rw [show ((T k).map (fun _=>wp (B k))).isSome=false by rw [hk];rfl] at pm
  simp only [Bool.false_eq_true,if_false] at pm
  refine ⟨w2,hrun,?_,?_,fun i hi hi1=>?_⟩
  ·have h3:=h2.new (nd:=eZ dir) hk g2 pm hnc Un (by
    cases dir with
    |true=>
     obtain ⟨hS,Um⟩:=hgd rfl
     refine .inl ⟨rfl,(hS.keep (b1.block g hS.lt)).keep (Below.heap_setCell _ _ _ _ (fun e=>?_)),Um⟩
     obtain ⟨es,cl,hm⟩:=hS.isMap
     rw [show g=b from e,hb] at hm;cases hm
    |false=>exact .inr rfl)
   rw [Yw] at h3
   exact h3
  ·refine (Wt.below _ b1).trans ((Wt.grown gc hOb).trans (.grown g2 (hO1 _ h.qz)))
  ·rw [g2.block i (by simpa using hi1) (fun e=>by have:=h.lt _ h.qz;rw [←Option.some.inj e] at this;omega)]
   exact Below.heap_setCell _ _ _ _ (by show i≠b;omega)
 have hset:∀(k:Int) w2,T k=none→0≤k→k<64→dB w2 r gN (s+1) (bQ T k (eZ dir)) (fun i=>if i=k then 1 else aL T i) (fun i=>if i=k then b else B i) (fun i=>if i=k then g else G i) (fun i=>if i=k then .slice none 0 0 else V i) OO→
  Calls Tryz.prog 309 #[qZ (some (G d)) nm,.int .i64 k] w2 fun e w'=>(∃v,e=.returned v)∧PT w' r (fT (bQ T k (eZ dir)) d nm k) OO∧Wt OO w2 w':=fun k w2 hk h0 h1 h2=>by
  obtain ⟨hdk,hd',hc,_⟩:=zR hT dir hd hl hnm hk h0 h1
  have CG:=h2.kr d C hd'
  rw [if_neg hdk] at CG
  refine (Fv CG (by unfold maxLen;omega) nm (by omega) (by simp only [hl,Option.map_none]) k).mono ?_
  rintro e w3 ⟨hv,sm,g3⟩
  have h3:=h2.add (d:=d) (nm:=nm) (n:=k) hd' (w':=w3) (by rw [if_neg hdk];exact g3) (by rw [if_neg hdk];exact sm)
  exact ⟨hv,⟨gN,s+1,_,_,_,h3.as rfl (fun i _=>hc i)⟩,.grown g3 (hO1 _ (h.lQ d C hd))⟩
 have VE:∀w1,Below w.heap.size w w1→∃v,w1.cell? ⟨b,2,none⟩=some v∧w1.frozen? ⟨b,2,none⟩=false:=fun w1 b1=>by
  have hbl:b<w.heap.size:=(Array.getElem?_eq_some_iff.1 hb).1
  obtain ⟨_,hs,hf⟩:=zO (k:=0) ((b1.block b hbl).trans hb)
  obtain ⟨v,hv⟩:=Option.isSome_iff_exists.1 hs
  exact ⟨v,hv,hf⟩
 have p1:=Rn
 have p2:=Oi
 obtain ⟨C0,hroot⟩:=nu.root
 go_enter Tryz.func306,Tryz.ntmps306
 go_wp2_with (first
  |(go_at_call 308;refine sS.mono ?_;rintro e w1 ⟨rfl,b1⟩;have b8:=b1.alloc b1.size (.cells #[.map (some (G d)),tx nm] 408);have h1:=h.below b8;have c0:=h1.c0;have hmap:=h1.map)
  |(refine gD rfl _ 204 rfl 202 Tryz.underlying204 gN _ _ rfl hmap ?_))
 have q2:(w1.alloc (.cells #[.map (some (G d)),tx nm] 408)).heap[w1.heap.size]? = some (.cells #[.map (some (G d)),tx nm] 408):=World.alloc_heap_new _ _
 have q3:w1.heap.size<(w1.alloc (.cells #[.map (some (G d)),tx nm] 408)).heap.size:=by simp
 generalize w1.alloc (.cells #[.map (some (G d)),tx nm] 408)=w2 at *
 clear hmap
 go_loopg [10] 64 (fun mm s10 wr=>∃(i:Nat),i+mm=65∧s10=.int .i64 (i:Int)∧1≤i∧i≤s∧(∀j:Nat,j<i→(T j).isSome=true)∧wr=w2)
 case atStart=>exact ⟨1,by omega,rfl,by omega,by omega,fun j hj=>by
  have:j=0:=by omega
  subst this;rw [show ((0:Nat):Int)=0 from rfl,hroot];rfl,rfl⟩
 case round=>
  obtain ⟨i,hi,rfl,hi1,his,hall,hw⟩:=hrel
  subst hw
  have hwf:(Lit.int .i64 (i:Int)).wf=true:=iy (by omega) (by omega)
  have hlk:=h1.look (i:Int) hwf
  cases hn:T (i:Int) with
  |some nd=>
   rw [hn] at hlk
   simp only [Option.isSome_some,if_true] at hlk
   have hi2:i+1≤s:=UC.free (k:=i+1) (fun j hj=>by
    by_cases e:j=i
    ·rw [e,hn];rfl
    ·exact hall j (by omega))
   go_wp2_with fail
   go_roundg (gk-1)
   case measure=>omega
   case rel=>exact ⟨i+1,by omega,by go_num,by omega,hi2,fun j hj=>by
    by_cases e:j=i
    ·rw [e,hn];rfl
    ·exact hall j (by omega),rfl⟩
  |none=>
   rw [hn] at hlk
   simp only [Option.isSome_none,Bool.false_eq_true,if_false] at hlk
   have hfree:gZ T (i:Int):=⟨by omega,hn,fun j h0 h1=>by
    obtain ⟨j',rfl⟩:∃j':Nat,j=j':=⟨j.toNat,by omega⟩
    exact hall j' (by omega)⟩
   obtain ⟨w3,hrun,h3,YQ,hk3⟩:=hput (i:Int) _ b8 hn (by omega) (by omega)
   have hS:=hset (i:Int) w3 hn (by omega) (by omega) h3
   obtain ⟨vb,bc,bf⟩:=VE _ b8
   obtain ⟨x0,x1,_,_⟩:=aO ((hk3 _ b1.size q3).trans q2)
   have hr0:(wr.setCell ⟨b,2,none⟩ (.int .i64 1)).cell? ⟨r,0,none⟩=some (.map (some gN)):=by
    rw [World.cell?_of_block (w:=wr) (a:=⟨r,0,none⟩) (Below.heap_setCell wr ⟨b,2,none⟩ (.int .i64 1) r (fun e=>Un ((show r=b from e) ▸ h.vX)))];exact c0
   have aae:(i:Int)<64:=by omega
   clear hput hset hall hn
   go_wp2_with (go_at_call 309;refine hS.mono ?_;rintro e w4 ⟨⟨v,rfl⟩,h4,wt4⟩)
   go_ret2
   exact ⟨(i:Int),hfree,aae,rfl,h4,YQ.trans wt4⟩
end
section
variable {w w':World}{r gN s:Nat}{T:Wd}{Z:Int→Nat}{B G:Int→Nat}{V:Int→Value}{O:Nat→Prop}
theorem zP (w:World):Calls Tryz.prog 132 #[] w fun e w'=>e=.returned (wp (w.heap.size+1))∧w'=(w.alloc (.map #[] 0)).alloc (.cells #[.map (some w.heap.size),.slice none 0 0,.int .i64 0,.int .i64 0] 337):=by
 have hmm:=@run_makeMap Tryz.prog
 go_enter Tryz.func132,Tryz.ntmps132
 go_wp2_with fail
 go_ret
 exact ⟨rfl,rfl⟩
def YJ (w:World) (r:Nat) (T:Wd) (O:Nat→Prop) (s:Nat) (p:List UInt8) (dir:Bool) (e:Ending) (w':World):Prop:=
 (bC T s p≠0∧e=.returned (.tuple #[.int .i64 0,eX (bC T s p)])∧PT w' r T O∧Stp w w' O O)∨
 (bC T s p=0∧∃k O',gZ T k∧k<64∧e=.returned (.tuple #[.int .i64 k,.nilIface])∧PT w' r (iD T p dir k) O'∧Stp w w' O O')
theorem PT.LG (h:PT w r T O) (hT:bE T) (hs:dm T s) (p:List UInt8) (hp:p.length<100000) (m:Int) (hm:w.cell? ⟨4,0,none⟩=some (.int .i64 m)) (hC:∀k C,T k=some (.dir C)→C.length≤1000) :
 Calls Tryz.prog 322 #[wp r,tx p] w (YJ w r T O s p false):=by
 obtain ⟨gN,s',B,G,V,h⟩:=h
 obtain rfl:=hs.one h.num
 have bA:Below w.heap.size w (w.alloc (.cells #[.map none,.slice none 0 0,.int .i64 0,.int .i64 0] 337)):=(Below.refl _ _).alloc (Nat.le_refl _) _
 have hA:=h.below bA
 have WM:=aT hm bA
 by_cases hE:bC T s p=0
 ·have hAdd:=hA.Jk hT p w.heap.size 0 false hp m WM hC (World.alloc_heap_new _ _) (fun ho=>by have:=h.lt _ ho;omega) (fun e=>by cases e) hE
  go_enter Tryz.func322,Tryz.ntmps322
  go_wp2_with (go_at_call 306;refine hAdd.mono ?_;rintro e w1 ⟨k,hk,UE,rfl,h1,Cz⟩)
  go_ret2
  refine .inr ⟨hE,k,_,hk,UE,rfl,h1,⟨⟨Cz.os,Cz.tape,Cz.output,Nat.le_trans bA.size Cz.size,fun i hi hn=>?_⟩,fun i hi=>?_⟩⟩
  ·refine (Cz.block i (Nat.lt_of_lt_of_le hi bA.size) (fun ho=>?_)).trans (bA.block i hi)
   rcases ho with ho|rfl|⟨_,e⟩
   ·exact hn ho
   ·omega
   ·cases e
  ·rcases hi with ho|rfl|⟨_,e⟩
   ·exact .inl ho
   ·exact .inr (Nat.le_refl _)
   ·cases e
 ·have hAdd:=hA.wM hT.toTrOk p w.heap.size hp m WM hE
  have hfin:∀e w',e=.returned (.tuple #[.int .i64 0,eX (bC T s p)])→Below w.heap.size w w'→YJ w r T O s p false e w':=fun e w' he b=>.inl ⟨hE,he,⟨gN,s,B,G,V,h.below b⟩,.below b⟩
  generalize bC T s p=z at *
  go_enter Tryz.func322,Tryz.ntmps322
  go_wp2_with (go_at_call 306;refine hAdd.mono ?_;rintro e w1 ⟨rfl,b1⟩)
  go_ret2
  exact hfin _ _ rfl (bA.trans (b1.mono bA.size))
def iN:Wd:=fun k=>if k=0 then some (.dir []) else none
theorem bD {k:Int}{nd:Nd}(h:iN k=some nd):k=0∧nd=.dir []:=by
 unfold iN at h
 by_cases e:k=0
 ·rw [if_pos e] at h;cases h;exact ⟨e,rfl⟩
 ·rw [if_neg e] at h;cases h
theorem zN (k:Int):aL iN k=0:=by
 by_cases e:aL iN k=0
 ·exact e
 ·obtain ⟨i,_,hi⟩:=uB 64 e
  exfalso
  apply hi
  cases h:iN (i:Int) with
  |none=>rfl
  |some nd=>obtain ⟨_,rfl⟩:=bD h;rfl
theorem Oz:bE iN:=
 { root:=⟨[],rfl⟩
   key:=fun k h=>by
    cases e:iN k with
    |none=>rw [e] at h;cases h
    |some nd=>obtain ⟨rfl,_⟩:=bD e;omega
   nodup:=fun k C h=>by obtain ⟨_,e⟩:=bD h;cases e;exact List.nodup_nil
   child:=fun k C s n h hl=>by obtain ⟨_,e⟩:=bD h;cases e;cases hl
   name:=fun k C x h hx=>by obtain ⟨_,e⟩:=bD h;cases e;cases hx
   small:=fun k b x h=>by obtain ⟨_,e⟩:=bD h;cases e
   nr:=zN 0
   lv:=fun k nd h=>.inl (bD h).1 }
theorem Vq (w:World):Calls Tryz.prog 47 #[] w fun e w'=>∃r O,e=.returned (wp r)∧PT w' r iN O∧Below w.heap.size w w'∧∀i,O i→w.heap.size≤i:=by
 have hmm:=@run_makeMap Tryz.prog
 have hz1:(w.alloc (.map #[] 0)).heap.size=w.heap.size+1:=by simp
 have WV:=zP (w.alloc (.map #[] 0))
 rw [hz1] at WV
 have hp0:=aG.made w
 have bA:Below w.heap.size w (((w.alloc (.map #[] 0)).alloc (.map #[] 0)).alloc (.cells #[.map (some (w.heap.size+1)),.slice none 0 0,.int .i64 0,.int .i64 0] 337)):=(((Below.refl _ _).alloc (Nat.le_refl _) _).alloc (by rw [hz1];omega) _).alloc (by simp;omega) _
 have hszA:(((w.alloc (.map #[] 0)).alloc (.map #[] 0)).alloc (.cells #[.map (some (w.heap.size+1)),.slice none 0 0,.int .i64 0,.int .i64 0] 337)).heap.size=w.heap.size+3:=by simp
 have hpA:aG (((w.alloc (.map #[] 0)).alloc (.map #[] 0)).alloc (.cells #[.map (some (w.heap.size+1)),.slice none 0 0,.int .i64 0,.int .i64 0] 337)) w.heap.size 0 (fun _=>none):=(hp0.keep (Below.heap_alloc _ _ _ (by rw [hz1];omega))).keep (Below.heap_alloc _ _ _ (by simp;omega))
 have hsA:SMap (((w.alloc (.map #[] 0)).alloc (.map #[] 0)).alloc (.cells #[.map (some (w.heap.size+1)),.slice none 0 0,.int .i64 0,.int .i64 0] 337)) (w.heap.size+1) 0 (fun _=>none):=by
  have:=SMap.made (w.alloc (.map #[] 0))
  rw [hz1] at this
  exact this.keep (Below.heap_alloc _ _ _ this.lt)
 have hnA:(((w.alloc (.map #[] 0)).alloc (.map #[] 0)).alloc (.cells #[.map (some (w.heap.size+1)),.slice none 0 0,.int .i64 0,.int .i64 0] 337)).heap[w.heap.size+2]? = some (.cells #[.map (some (w.heap.size+1)),.slice none 0 0,.int .i64 0,.int .i64 0] 337):=by
  have:=zo (w.alloc (.map #[] 0)) (.map #[] 0) (.cells #[.map (some (w.heap.size+1)),.slice none 0 0,.int .i64 0,.int .i64 0] 337)
  rwa [hz1] at this
 generalize ((w.alloc (.map #[] 0)).alloc (.map #[] 0)).alloc (.cells #[.map (some (w.heap.size+1)),.slice none 0 0,.int .i64 0,.int .i64 0] 337)=wA at *
 obtain ⟨w1,hrun,vF,g1⟩:=hpA.put Tryz.underlying204 (by unfold maxLen;omega) 0 (by decide) (wp (w.heap.size+2))
 have hkp:∀i,i<w.heap.size+3→i≠w.heap.size→w1.heap[i]? = wA.heap[i]? := fun i hi hne=>g1.block i (by rw [hszA];exact hi) (fun e=>hne (Option.some.inj e))
 have b1:Below w.heap.size w w1:=bA.grown g1 (by omega) (fun k e=>by cases e;omega)
 have hz9:w.heap.size+3≤w1.heap.size:=by have:=g1.size;omega
 have hfin:PT (w1.alloc (.cells #[.map (some w.heap.size)] 206)) w1.heap.size iN (fun i=>w.heap.size≤i∧i<w1.heap.size+1):=by
  have hal:∀i,i<w1.heap.size→(w1.alloc (.cells #[.map (some w.heap.size)] 206)).heap[i]? = w1.heap[i]? := fun i hi=>Below.heap_alloc _ _ _ hi
  refine ⟨w.heap.size,1,fun _=>w.heap.size+2,fun _=>w.heap.size+1,fun _=>.slice none 0 0,World.alloc_heap_new _ _,?_,fun k nd e=>?_,fun k C e=>?_,fun k b x e=>?_,fun k C e=>by omega,fun k k' C C' e e' _=>?_,fun k k' e e' _=>?_,⟨by omega,by omega⟩,⟨by omega,by omega⟩,fun k _=>⟨by omega,by omega⟩,fun k C _=>⟨by omega,by omega⟩,fun k b x i e=>?_,fun i hi=>by simp;omega⟩
  ·have e:(fun i=>if i=(0:Int) then some (wp (w.heap.size+2)) else (fun _=>none) i)=fun k=>(iN k).map (fun _=>wp (w.heap.size+2)):=by
    funext i;unfold iN;by_cases e:i=0<;>simp [e]
   rw [←e]
   exact vF.keep (hal _ (by omega))
  ·obtain ⟨rfl,rfl⟩:=bD e
   rw [hal _ (by omega),hkp _ (by omega) (by omega),hnA]
   simp [dM,zN]
  ·obtain ⟨rfl,e9⟩:=bD e
   cases e9
   exact (hsA.keep (hkp _ (by omega) (by omega))).keep (hal _ (by omega))
  ·obtain ⟨_,e9⟩:=bD e;cases e9
  ·rw [(bD e).1,(bD e').1]
  ·cases h1:iN k with
   |none=>rw [h1] at e;cases e
   |some nd=>cases h2:iN k' with
    |none=>rw [h2] at e';cases e'
    |some kU=>rw [(bD h1).1,(bD h2).1]
  ·obtain ⟨_,e9⟩:=bD e;cases e9
 have b2:Below w.heap.size w (w1.alloc (.cells #[.map (some w.heap.size)] 206)):=b1.alloc b1.size _
 clear vF g1 hkp hpA hsA hnA bA b1
 go_enter Tryz.func47,Tryz.ntmps47
 go_wp2_with (go_at_call 132;refine WV.mono ?_;rintro e w' ⟨rfl,hw'⟩;subst w')
 go_ret
 exact ⟨w1.heap.size,_,rfl,hfin,b2,fun i hi=>hi.1⟩
end
def Ff (w:World) (v:Value) (l:List UInt8):Prop:=
 ∃a c,v=.slice a l.length c∧l.length≤c∧((a=none∧l=[]∧c=0)∨∃g o,a=some ⟨g,o,none⟩∧∀j (h:j<l.length),w.cell? ⟨g,o+j,none⟩=some (.int .u8 (l[j].toNat:Int)))
section
variable {w w':World}{v:Value}{l:List UInt8}
theorem Dat.rdb (h:Dat w v l):Ff w v l:=by
 rcases h with ⟨rfl,rfl⟩|⟨g,c,rfl,hc,_,hi⟩
 ·exact ⟨none,0,rfl,Nat.le_refl _,.inl ⟨rfl,rfl,rfl⟩⟩
 ·exact ⟨_,c,rfl,hc,.inr ⟨g,0,rfl,fun j hj=>by rw [Nat.zero_add];exact hi j hj⟩⟩
theorem Bq (w:World):(sizeOf 5).run Tryz.prog w=.ok 1 w:=by kernel_rfl
theorem vR:Tryz.prog.elem 300=5:=by kernel_rfl
theorem wP:Tryz.prog.underlying 300=some (.slice (Tryz.prog.elem 300)):=by rw [vR];exact Tryz.underlying300
theorem Ff.from (h:Ff w v l) (k:Nat) (hk:k≤l.length):∃v',(∀W,(Instr.slice 300 v (some (.int .i64 (k:Int))) none none).run Tryz.prog W=.ok v' W)∧Ff w v' (l.drop k):=by
 obtain ⟨a,c,rfl,hc,hx⟩:=h
 refine ⟨sliced a k l.length c 1,fun W=>?_,?_⟩
 ·rw [run_slice_l (P:=Tryz.prog) W 300 a l.length c wP .i64 (k:Int) (by omega) (by omega),vR,Bq]
  simp [Result.andThen]
 ·unfold sliced
  rcases hx with ⟨rfl,rfl,rfl⟩|⟨g,o,rfl,hi⟩
  ·have:k=0:=by simpa using hk
   subst this
   exact ⟨none,0,by simp,Nat.le_refl _,.inl ⟨rfl,rfl,rfl⟩⟩
  ·by_cases e:c=k
   ·have hd:l.drop k=[]:=List.drop_eq_nil_of_le (by omega)
    rw [hd,if_pos e]
    exact ⟨some ⟨g,o,none⟩,c-k,by rw [show l.length-k=0 by omega];rfl,by simp,.inr ⟨g,o,rfl,fun j hj=>by simp at hj⟩⟩
   ·rw [if_neg e]
    refine ⟨some ⟨g,o+k,none⟩,c-k,by simp [Addr.add],by simp;omega,.inr ⟨g,o+k,rfl,fun j hj=>?_⟩⟩
    have:=hi (k+j) (by simp at hj;omega)
    rw [Nat.add_assoc,this,List.getElem_drop]
theorem Ff.upto (h:Ff w v l) (k:Nat) (hk:k≤l.length):∃v',(∀W,(Instr.slice 300 v none (some (.int .i64 (k:Int))) none).run Tryz.prog W=.ok v' W)∧Ff w v' (l.take k):=by
 obtain ⟨a,c,rfl,hc,hx⟩:=h
 refine ⟨sliced a 0 k c 1,fun W=>?_,?_⟩
 ·rw [run_slice_h (P:=Tryz.prog) W 300 a l.length c wP .i64 (k:Int) (by omega) (by omega),vR,Bq]
  simp [Result.andThen]
 ·unfold sliced
  have hl:(l.take k).length=k:=by simp;omega
  rcases hx with ⟨rfl,rfl,rfl⟩|⟨g,o,rfl,hi⟩
  ·have:k=0:=by simpa using hk
   subst this
   exact ⟨none,0,by simp,Nat.le_refl _,.inl ⟨rfl,rfl,rfl⟩⟩
  ·refine ⟨some ⟨g,o,none⟩,c,?_,by rw [hl];omega,.inr ⟨g,o,rfl,fun j hj=>?_⟩⟩
   ·rw [hl];split<;>simp [Addr.add]
   ·rw [hl] at hj
    rw [hi j (by omega),List.getElem_take]
theorem Ff.text (h:Ff w v l):(convert 300 9 v).run Tryz.prog w=.ok (tx l) w:=by
 obtain ⟨a,c,rfl,hc,hx⟩:=h
 rcases hx with ⟨rfl,rfl,rfl⟩|⟨g,o,rfl,hi⟩
 ·exact Lib.run_convert_nil_bytes w 300 9 5 0 Tryz.underlying300 Tryz.underlying5 Tryz.underlying9
 ·exact run_convert_bytes_back (P:=Tryz.prog) w 300 9 5 ⟨g,o,none⟩ c l Tryz.underlying300 Tryz.underlying5 Tryz.underlying9 (fun j hj=>by rw [Addr.add_lit];exact hi j hj)
theorem Ff.len (h:Ff w v l):∃a c,v=.slice a l.length c:=by
 obtain ⟨a,c,rfl,_⟩:=h
 exact ⟨a,c,rfl⟩
end
section
variable {w w':World}{r gN s:Nat}{T:Wd}{Z:Int→Nat}{B G:Int→Nat}{V:Int→Value}{O:Nat→Prop}
theorem IG (ts:Array TypeId) (ty:TypeId) (x y:Int) (k:Nat) (h:(k:Int)=min x y) (W:World):(Builtin.min_ ts ty #[.int .i64 x,.int .i64 y]).run Tryz.prog W=.ok (.int .i64 (k:Int)) W:=by
 rw [run_min_int2]
 congr 2
 by_cases e:y<x
 ·rw [if_pos e];omega
 ·rw [if_neg e];omega
theorem PT.Bu (h:PT w r T O) (n a mm:Int) (hw:(Lit.int .i64 n).wf=true) :
 Calls Tryz.prog 157 #[wp r,.int .i64 n,.int .i64 a,.int .i64 mm] w fun e w'=>e=.returned (.tuple #[tx (dY T n a mm),aJ (jw T n a mm)])∧∃q,w'=w.drewN q:=by
 obtain ⟨gN,s,B,G,V,h⟩:=h
 by_cases hz:bI T n=0
 ·obtain ⟨b,x,hn⟩:=kP hz
  have hF:=h.lF n hw hn
  obtain ⟨_,n1,_⟩:=h.qg hn
  have hD:=(h.data n b x hn).rdb
  generalize V n=v at *
  by_cases ha:a<0
  ·have e1:jw T n a mm=2:=by unfold jw;rw [if_neg (fun e=>e hz),if_pos (.inl ha)]
   have e2:dY T n a mm=[]:=by unfold dY;rw [hn];simp only;rw [if_pos (.inl ha)]
   rw [e1,e2]
   clear hn hz e1 e2 hD
   go_enter Tryz.func157,Tryz.ntmps157
   go_wp2_with (go_at_call 242;refine hF.mono ?_;rintro e w' ⟨rfl,hw'⟩;subst w')
   go_ret2
   exact ⟨rfl,0,rfl⟩
  ·by_cases hm:mm<0
   ·have e1:jw T n a mm=2:=by unfold jw;rw [if_neg (fun e=>e hz),if_pos (.inr hm)]
    have e2:dY T n a mm=[]:=by unfold dY;rw [hn];simp only;rw [if_pos (.inr hm)]
    rw [e1,e2]
    clear hn hz e1 e2 hD
    go_enter Tryz.func157,Tryz.ntmps157
    go_wp2_with (go_at_call 242;refine hF.mono ?_;rintro e w' ⟨rfl,hw'⟩;subst w')
    go_ret2
    exact ⟨rfl,0,rfl⟩
   ·have e1:jw T n a mm=0:=by unfold jw;rw [if_neg (fun e=>e hz),if_neg (by omega)]
    obtain ⟨k1,hk1⟩:∃k1,min a.toNat b.length=k1:=⟨_,rfl⟩
    obtain ⟨k2,hk2⟩:∃k2,min mm.toNat (b.length-k1)=k2:=⟨_,rfl⟩
    have e2:dY T n a mm=(b.drop k1).take k2:=by
     unfold dY;rw [hn];simp only;rw [if_neg (by omega),←hk2,←hk1]
     by_cases e:a.toNat≤b.length
     ·rw [Nat.min_eq_left e]
      by_cases e':mm.toNat≤b.length-a.toNat
      ·rw [Nat.min_eq_left e']
      ·rw [Nat.min_eq_right (by omega),List.take_of_length_le (by simp;omega),List.take_of_length_le (by simp)]
     ·rw [show min a.toNat b.length=b.length by omega,List.drop_eq_nil_of_le (show b.length≤a.toNat by omega),List.drop_length];simp
    rw [e1,e2,aD]
    obtain ⟨v1,r1,d1⟩:=hD.from k1 (by omega)
    obtain ⟨v2,r2,d2⟩:=d1.upto k2 (by simp;omega)
    have m1:=fun ts ty=>IG ts ty a (b.length:Int) k1 (by omega)
    have m2:=fun ts ty=>IG ts ty mm ((b.length-k1:Nat):Int) k2 (by omega)
    have tq:(convert 300 9 v2).run Tryz.prog w.drew=.ok (tx ((b.drop k1).take k2)) w.drew:=Ff.text (w:=w.drew) d2
    obtain ⟨A,c,rfl⟩:=hD.len
    obtain ⟨A1,c1,e3⟩:=d1.len
    rw [List.length_drop] at e3
    subst e3
    generalize (b.drop k1).take k2=res at *
    generalize b.length-k1=L1 at *
    clear hn hz e1 e2 hD d1 d2 hk1 hk2
    go_enter Tryz.func157,Tryz.ntmps157
    go_wp2_with (go_at_call 242;refine hF.mono ?_;rintro e w' ⟨rfl,hw'⟩;subst w')
    go_region
    go_wp2_with fail
    go_ret2
    exact ⟨rfl,1,rfl⟩
 ·have hF:=h.jC n hw hz
  have e1:jw T n a mm=bI T n:=by unfold jw;rw [if_pos hz]
  have e2:dY T n a mm=[]:=by
   unfold dY
   cases hn:T n with
   |none=>rfl
   |some nd=>cases nd with
    |dir C=>rfl
    |file b x=>exact absurd (by unfold bI;rw [hn]) hz
  rw [e1,e2,aB hz]
  generalize bI T n=z at *
  go_enter Tryz.func157,Tryz.ntmps157
  go_wp2_with (go_at_call 242;refine hF.mono ?_;rintro e w' ⟨rfl,hw'⟩;subst w')
  go_ret2
  exact ⟨rfl,0,rfl⟩
end
section
variable {w w':World}{v:Value}{l:List UInt8}
theorem Pv (w:World) (N:Nat) (hN:N≤1000):∃w',(Instr.makeSlice 300 (.int .i64 (N:Int)) (.int .i64 (N:Int))).run Tryz.prog w=.ok (.slice (some ⟨w.heap.size,0,none⟩) N N) w'∧P5 w' w.heap.size (.slice (some ⟨w.heap.size,0,none⟩) N N) (List.replicate N 0)∧Below w.heap.size w w':=by
 obtain ⟨i,hi,hz,hs,hb⟩:=info_parts (P:=Tryz.prog) (e:=5) (z:=.int .u8 0) (size:=1) (bytes:=1) (by kernel_rfl)
 have hr:=run_make (P:=Tryz.prog) w 300 5 i _ Tryz.underlying300 hi hz .i64 .i64 (N:Int) (N:Int) (by omega) (by omega) (by rw [hb];omega) (by omega)
 rw [hs,Int.toNat_natCast,Nat.mul_one] at hr
 refine ⟨_,hr,?_,(Below.refl _ _).alloc (Nat.le_refl _) _⟩
 have hnew:(w.alloc (.cells (madeCells (Value.int .u8 0).cells N) 5)).heap[w.heap.size]? = some (.cells (madeCells (Value.int .u8 0).cells N) 5):=World.alloc_heap_new _ _
 have hsz:(madeCells (Value.int .u8 0).cells N).size=N:=size_madeCells _ _
 have hel:∀j (hj:j<N),(madeCells (Value.int .u8 0).cells N)[j]? = some (.int .u8 0):=fun j hj=>by
  simp [madeCells,Value.cells,hj,Nat.mod_one]
 refine ⟨w.heap.size,N,by simp,Nat.le_refl _,by simp,by simp,fun j hj=>?_,fun j hj=>⟨?_,?_⟩⟩
 ·rw [cell_of_row _ _ j _ _ _ hnew,hel j (by simpa using hj)];simp
 ·rw [cell_of_row _ _ j _ _ _ hnew,hel j hj];rfl
 ·unfold World.frozen?
  simp only [hnew]
  simp
theorem P5.X9 {g cap B:Nat}{b:List UInt8}{u:Value}(h:P5 w B (.slice (some ⟨g,0,none⟩) l.length cap) l) (hr:Ff w u b) (hb:b.length≤l.length) (ty:TypeId) :
 (Builtin.copy_ #[300,300] ty #[.slice (some ⟨g,0,none⟩) l.length cap,u]).run Tryz.prog w=.ok (.int .i64 (b.length:Int)) (w.setCells g 0 (EY b)):=by
 obtain ⟨g',cap',e,hB,hlt,hcap,h1,h2⟩:=h
 cases e
 obtain ⟨a,c,rfl,hc,hx⟩:=hr
 have hu:(EY b).length=b.length:=by unfold EY;rw [List.length_map]
 have hsz:(Tryz.prog.info? 5).map (·.size)=some 1:=by kernel_rfl
 rcases hx with ⟨rfl,rfl,rfl⟩|⟨g2,o,rfl,hi⟩
 ·exact run_copy_none (P:=Tryz.prog) w 300 300 ty 5 _ none l.length cap 0 0 Tryz.underlying300 hsz (Nat.zero_min _)
 ·have:=run_copy_cells (P:=Tryz.prog) w 300 300 ty 5 g 0 l.length cap ⟨g2,o,none⟩ b.length c (EY b) Tryz.underlying300 hsz (by rw [hu];exact (Nat.min_eq_left hb).symm) (fun j x hj=>by
   obtain ⟨hjl,rfl⟩:=QV hj
   rw [Addr.add_lit];exact hi j hjl) (fun j hj=>(h2 _ (by rw [hu] at hj;omega)).1) (fun j hj=>(h2 _ (by rw [hu] at hj;omega)).2) (fun x hx=>by
   unfold EY at hx
   obtain ⟨y,_,rfl⟩:=List.mem_map.1 hx
   rfl)
  rw [hu] at this
  exact this
theorem P5.dat {B:Nat}(h:P5 w B v l):Dat w v l:=by
 obtain ⟨g,cap,rfl,_,hlt,hc,h1,_⟩:=h
 exact .inr ⟨g,cap,rfl,hc,hlt,h1⟩
end
theorem RQ (ts:Array TypeId) (ty:TypeId) (x y:Int) (k:Nat) (h:(k:Int)=max x y) (W:World):(Builtin.max_ ts ty #[.int .i64 x,.int .i64 y]).run Tryz.prog W=.ok (.int .i64 (k:Int)) W:=by
 rw [run_max_int2]
 congr 2
 by_cases e:y > x
 ·rw [if_pos e];omega
 ·rw [if_neg e];omega
theorem Er {w:World}{u:Value}{b x:List UInt8}(hd:Ff w u b) (PR:∀g o l c,u=.slice (some ⟨g,o,none⟩) l c→g<w.heap.size) (a:Nat) (hx:x≠[]) (hb:b.length≤256) (hax:a+x.length≤200) :
 ∃N w1 w2 w3,max b.length (a+x.length)=N∧(Instr.makeSlice 300 (.int .i64 (N:Int)) (.int .i64 (N:Int))).run Tryz.prog w=.ok (.slice (some ⟨w.heap.size,0,none⟩) N N) w1∧
  (∀ty,(Builtin.copy_ #[300,300] ty #[.slice (some ⟨w.heap.size,0,none⟩) N N,u]).run Tryz.prog w1=.ok (.int .i64 (b.length:Int)) w2)∧
  (∀W,(Instr.slice 300 (.slice (some ⟨w.heap.size,0,none⟩) N N) (some (.int .i64 (a:Int))) none none).run Tryz.prog W=.ok (.slice (some ⟨w.heap.size,a,none⟩) (N-a) (N-a)) W)∧
  (∀ty,(Builtin.copy_ #[300,9] ty #[.slice (some ⟨w.heap.size,a,none⟩) (N-a) (N-a),tx x]).run Tryz.prog w2=.ok (.int .i64 (x.length:Int)) w3)∧
  Dat w3 (.slice (some ⟨w.heap.size,0,none⟩) N N) (CW b a x)∧Below w.heap.size w w1∧Below w.heap.size w w2∧Below w.heap.size w w3:=by
 have hxl:1≤x.length:=List.length_pos_iff.2 hx
 obtain ⟨N,hN⟩:∃N,max b.length (a+x.length)=N:=⟨_,rfl⟩
 obtain ⟨w1,hmk,hz,b1⟩:=Pv w N (by omega)
 have hlen:(List.replicate N (0:UInt8)).length=N:=List.length_replicate
 have hz':P5 w1 w.heap.size (.slice (some ⟨w.heap.size,0,none⟩) (List.replicate N (0:UInt8)).length N) (List.replicate N 0):=by rw [hlen];exact hz
 have hr1:Ff w1 u b:=by
  obtain ⟨aa,c,rfl,hc,hx⟩:=hd
  refine ⟨aa,c,rfl,hc,?_⟩
  rcases hx with h|⟨g,o,rfl,hi⟩
  ·exact .inl h
  ·exact .inr ⟨g,o,rfl,fun j hj=>by rw [b1.cell (p:=⟨g,o+j,none⟩) (PR _ _ _ _ rfl)];exact hi j hj⟩
 have hc1:=fun ty=>hz'.X9 hr1 (by rw [hlen];omega) ty
 rw [hlen] at hc1
 have k1:=(hz'.copy rfl 0 b (by rw [hlen];omega) 3).2.1
 have Z7:(List.replicate N (0:UInt8)).take 0 ++ b ++ (List.replicate N (0:UInt8)).drop (0+b.length)=AJ b (a+x.length):=by
  unfold AJ
  simp only [List.take_zero,List.nil_append,Nat.zero_add,List.drop_replicate]
  rw [show N-b.length=a+x.length-b.length by omega]
 rw [Z7,hlen] at k1
 have hpl:(AJ b (a+x.length)).length=N:=by rw [Dz];exact hN
 have k1':P5 (w1.setCells w.heap.size 0 (EY b)) w.heap.size (.slice (some ⟨w.heap.size,0,none⟩) (AJ b (a+x.length)).length N) (AJ b (a+x.length)):=by rw [hpl];exact k1
 have k2:=fun ty=>k1'.copy rfl a x (by rw [hpl];omega) ty
 rw [hpl] at k2
 refine ⟨N,w1,_,_,hN,hmk,hc1,fun W=>?_,fun ty=>(k2 ty).1,(k2 3).2.1.dat,b1,fE (Nat.le_refl _) _ _ _ b1,fE (Nat.le_refl _) _ _ _ (fE (Nat.le_refl _) _ _ _ b1)⟩
 rw [run_slice_l (P:=Tryz.prog) W 300 _ N N wP .i64 (a:Int) (by omega) (by omega),vR,Bq]
 have hne:¬N=a:=by omega
 simp [Result.andThen,sliced,hne,Addr.add]
 omega
section
variable {w w':World}{r gN s:Nat}{T:Wd}{Z:Int→Nat}{B G:Int→Nat}{V:Int→Value}{O:Nat→Prop}
theorem PT.wN (h:PT w r T O) (hT:bE T) (n a:Int) (x:List UInt8) (hw:(Lit.int .i64 n).wf=true) (hxl:x.length<100000) :
 Calls Tryz.prog 147 #[wp r,.int .i64 n,.int .i64 a,tx x] w fun e w'=>e=.returned (aJ (cZ T n a x))∧∃O',PT w' r (fe T n a x) O'∧Stp w w' O O':=by
 have hfin:cZ T n a x≠0∨x=[]→∃O',PT w r (fe T n a x) O'∧Stp w w O O':=fun hh=>⟨O,by unfold fe;rw [if_pos hh];exact h,.refl _ _⟩
 obtain ⟨gN,s,B,G,V,h⟩:=h
 by_cases hz:bI T n=0
 ·obtain ⟨b,y,hn⟩:=kP hz
  have hF:=h.lF n hw hn
  obtain ⟨_,n1,_⟩:=h.qg hn
  have nf:=h.pG hn 1
  have hEq:cZ T n a x=if a<0 then 2 else if 200-(x.length:Int)<a then 4 else 0:=by
   unfold cZ;rw [if_neg (fun e=>e hz)]
   by_cases ha:a<0
   ·rw [if_pos ha,if_pos ha]
   ·rw [if_neg ha,if_neg ha]
    by_cases hl:200-(x.length:Int)<a
    ·rw [if_pos (.inr hl),if_pos hl]
    ·rw [if_neg hl,if_neg (fun e=>by rcases e with e|e<;>omega)]
  have hwr:wrap64 (200-(x.length:Int))=200-(x.length:Int):=by unfold wrap64;omega
  by_cases ha:a<0
  ·rw [if_pos ha] at hEq
   rw [hEq]
   have hf:=hfin (.inl (by rw [hEq];decide))
   clear hn hz hEq hT
   go_enter Tryz.func147,Tryz.ntmps147
   go_wp2_with (go_at_call 242;refine hF.mono ?_;rintro e w' ⟨rfl,hw'⟩;subst w')
   go_ret
   exact ⟨rfl,hf⟩
  ·rw [if_neg ha] at hEq
   by_cases hl:200-(x.length:Int)<a
   ·rw [if_pos hl] at hEq
    rw [hEq]
    have hf:=hfin (.inl (by rw [hEq];decide))
    clear hn hz hEq hT
    go_enter Tryz.func147,Tryz.ntmps147
    go_wp2_with (go_at_call 242;refine hF.mono ?_;rintro e w' ⟨rfl,hw'⟩;subst w')
    go_ret
    exact ⟨rfl,hf⟩
   ·rw [if_neg hl] at hEq
    rw [hEq,aD]
    by_cases hx:x=[]
    ·have hf:=hfin (.inr hx)
     subst hx
     clear hn hz hEq hT
     go_enter Tryz.func147,Tryz.ntmps147
     go_wp2_with (go_at_call 242;refine hF.mono ?_;rintro e w' ⟨rfl,hw'⟩;subst w')
     go_ret
     exact ⟨rfl,hf⟩
    ·have hxe:(x == [])=false:=by simp [hx]
     obtain ⟨A,rfl⟩:∃A:Nat,a=A:=⟨a.toNat,by omega⟩
     have hsm:=hT.small n b y hn
     have hdat:=h.data n b y hn
     obtain ⟨N,w1,w2,w3,hN,hmk,hc1,hsl,hc2,hd3,b1,b2,b3⟩:=Er hdat.rdb (fun g o l c e=>hdat.lt (i:=g) (by rw [e];rfl)) A hx hsm.1 (by omega)
     obtain ⟨u0,c0,hv⟩:=hdat.len
     have m1:=fun ts ty=>RQ ts ty (b.length:Int) ((A:Int)+(x.length:Int)) N (by omega)
     have hwr2:wrap64 ((A:Int)+(x.length:Int))=(A:Int)+(x.length:Int):=by unfold wrap64;omega
     have h3:=h.below b3
     obtain ⟨V',O',h4,hO'⟩:=h3.bytes hn hd3
     have hU:fe T n (A:Int) x=bQ T n (.file (CW b A x) y):=by
      unfold fe;rw [if_neg (fun e=>e.elim (fun e=>e hEq) hx),hn]
      simp
     have XY:∃O',PT (w3.setCell ⟨B n,1,none⟩ (.slice (some ⟨w.heap.size,0,none⟩) N N)) r (fe T n (A:Int) x) O'∧Stp w (w3.setCell ⟨B n,1,none⟩ (.slice (some ⟨w.heap.size,0,none⟩) N N)) O O':=by
      rw [hU]
      refine ⟨O',⟨gN,s,B,G,V',h4.as rfl (fun k _=>jD hn k)⟩,((Stp.below b3).trans (.cell _ (h.ownB n (by rw [hn];rfl)))).wt,fun i hi=>?_⟩
      rcases (hO' i).1 hi with e|e
      ·exact .inl e
      ·right;cases e;exact Nat.le_refl _
     have c1:w1.cell? ⟨B n,1,none⟩=some (.slice u0 b.length c0):=by rw [b1.cell (p:=⟨B n,1,none⟩) (h.lt _ (h.ownB n (by rw [hn];rfl)))];rw [n1,hv]
     have f3:=h3.pG hn 1
     have c3:=(h3.qg hn).2.1
     rw [hv] at n1 hc1 c3
     clear h4 hU h3 hn hz hEq hT hdat hd3 hfin h hv
     go_enter Tryz.func147,Tryz.ntmps147
     go_wp2_with (go_at_call 242;refine hF.mono ?_;rintro e w' ⟨rfl,hw'⟩;subst w')
     go_ret
     exact ⟨rfl,XY⟩
 ·have hF:=h.jC n hw hz
  have hEq:cZ T n a x=bI T n:=by unfold cZ;rw [if_pos hz]
  have hf:=hfin (.inl (by rw [hEq];exact hz))
  rw [hEq,aB hz]
  generalize bI T n=z at *
  go_enter Tryz.func147,Tryz.ntmps147
  go_wp2_with (go_at_call 242;refine hF.mono ?_;rintro e w' ⟨rfl,hw'⟩;subst w')
  go_ret
  exact ⟨rfl,hf⟩
end
section
variable {w w':World}{r gN s:Nat}{T:Wd}{Z:Int→Nat}{B G:Int→Nat}{V:Int→Value}{O:Nat→Prop}
theorem PT.RZ (h:PT w r T O) (hT:bE T) (p q:List UInt8) (hp:p.length<100000) (hq:q.length<100000) (m:Int) (hm:w.cell? ⟨4,0,none⟩=some (.int .i64 m)) (hE:nZ T p q≠0) :
 Calls Tryz.prog 268 #[wp r,tx p,tx q] w fun e w'=>e=.returned (eX (nZ T p q))∧Below w.heap.size w w':=by
 obtain ⟨gN,s,B,G,V,h⟩:=h
 have hs1:=h.num.pos hT.toTrOk
 have hF:=h.find_ok hT.toTrOk hs1 p hp m hm
 have hsome:=nP hT.toTrOk (p:=p)
 unfold nZ at hE ⊢
 by_cases hf:(aS T p).2=0
 ·rw [if_neg (fun e=>e hf)] at hE ⊢
  have hs:=hsome hf
  have hkey:=hT.key _ hs
  have hwf:(Lit.int .i64 (aS T p).1).wf=true:=iy hkey.1 (by omega)
  rw [hf,aD] at hF
  generalize (aS T p).1=n at *
  by_cases hdr:qE T n=true
  ·rw [if_pos hdr] at hE ⊢
   obtain ⟨C,hC⟩:=K3 hdr
   have e6:bI T n=6:=by unfold bI;rw [hC]
   have Mm:=fun w1 (b1:Below w.heap.size w w1)=>(h.below b1).jC n hwf (by rw [e6];decide)
   rw [e6] at Mm
   clear hE hdr
   go_enter Tryz.func268,Tryz.ntmps268
   go_wp2_with (first
    |(go_at_call 307;refine hF.mono ?_;rintro e w1 ⟨rfl,b1⟩;have Fs:=Mm w1 b1)
    |(go_at_call 242;refine Fs.mono ?_;rintro e w' ⟨rfl,hw'⟩;subst w'))
   go_ret
   exact ⟨rfl,b1⟩
  ·rw [if_neg hdr] at hE ⊢
   obtain ⟨b,x,hn⟩:=yj hs hdr
   have Mm:=fun w1 (b1:Below w.heap.size w w1)=>(h.below b1).lF n hwf hn
   by_cases hz:(ae T q).2.2=0
   ·rw [if_neg (fun e=>e hz)] at hE ⊢
    cases hh:lW T (ae T q).1 (ae T q).2.1 with
    |none=>rw [hh] at hE;exact absurd (by simp) hE
    |some n'=>
     rw [show (if (some n').isSome=true then (9:Int) else 0)=9 from rfl]
     have sS:=fun w1 (b1:Below w.heap.size w w1)=>(h.below b1).qQ hT.toTrOk hs1 q hq m (aT hm b1) hz hh
     clear hE hdr hh hz
     go_enter Tryz.func268,Tryz.ntmps268
     go_wp2_with (first
      |(go_at_call 307;refine hF.mono ?_;rintro e w1 ⟨rfl,b1⟩;have Fs:=Mm w1 b1;have tC:=sS w1 b1)
      |(go_at_call 242;refine Fs.mono ?_;rintro e w' ⟨rfl,hw'⟩;subst w')
      |(go_at_call 308;refine tC.mono ?_;rintro e w2 ⟨rfl,b2⟩))
     go_ret
     have b9:Below w.heap.size w w2:=b1.trans (b2.mono b1.size)
     refine ⟨rfl,?_⟩
     repeat first|exact b9|refine Below.alloc ?_ (by first|omega|(have:=b9.size;omega) | (simp<;>omega)) _
   ·rw [if_pos hz] at hE ⊢
    have sS:=fun w1 (b1:Below w.heap.size w w1)=>(h.below b1).xc hT.toTrOk hs1 q hq m (aT hm b1) hz
    generalize (ae T q).2.2=z at *
    clear hE hdr
    go_enter Tryz.func268,Tryz.ntmps268
    go_wp2_with (first
     |(go_at_call 307;refine hF.mono ?_;rintro e w1 ⟨rfl,b1⟩;have Fs:=Mm w1 b1;have tC:=sS w1 b1)
     |(go_at_call 242;refine Fs.mono ?_;rintro e w' ⟨rfl,hw'⟩;subst w')
     |(go_at_call 308;refine tC.mono ?_;rintro e w2 ⟨rfl,b2⟩))
    go_ret
    have b9:Below w.heap.size w w2:=b1.trans (b2.mono b1.size)
    refine ⟨rfl,?_⟩
    repeat first|exact b9|refine Below.alloc ?_ (by first|omega|(have:=b9.size;omega) | (simp<;>omega)) _
 ·rw [if_pos hf] at hE ⊢
  rw [aB hf] at hF
  generalize (aS T p).2=z at *
  generalize (aS T p).1=n at *
  clear hsome
  go_enter Tryz.func268,Tryz.ntmps268
  go_wp2_with (go_at_call 307;refine hF.mono ?_;rintro e w1 ⟨rfl,b1⟩)
  go_ret
  exact ⟨rfl,b1⟩
theorem PT.OJ (h:PT w r T O) (hT:bE T) (p q:List UInt8) (hp:p.length<100000) (hq:q.length<100000) (m:Int) (hm:w.cell? ⟨4,0,none⟩=some (.int .i64 m)) (hC:∀k C,T k=some (.dir C)→C.length≤1000) (hE:nZ T p q=0) :
 Calls Tryz.prog 268 #[wp r,tx p,tx q] w fun e w'=>e=.returned .nilIface∧PT w' r (lY T p q) O∧Stp w w' O O:=by
 obtain ⟨gN,s,B,G,V,h⟩:=h
 have hs1:=h.num.pos hT.toTrOk
 have nu:=hT.toTrOk
 have hF:=h.find_ok nu hs1 p hp m hm
 obtain ⟨hf,⟨b,x,hn⟩,hz,hnm,C,hd,hl⟩:=xX nu hE
 have hU:lY T p q=fT T (ae T q).1 (ae T q).2.1 (aS T p).1:=by unfold lY;rw [if_neg (fun e=>e hE)]
 have hkey:=hT.key _ (show (T (aS T p).1).isSome=true by rw [hn];rfl)
 have hwf:(Lit.int .i64 (aS T p).1).wf=true:=iy hkey.1 (by omega)
 have Mm:=fun w1 (b1:Below w.heap.size w w1)=>(h.below b1).lF _ hwf hn
 have sS:=fun w1 (b1:Below w.heap.size w w1)=>(h.below b1).lD nu hs1 q hq m (aT hm b1) hz (by rw [dR hd];exact hl)
 have hcb:=Ag hC (aS T p).1
 have hnl:=dW hnm
 have Wy:=hC _ C hd
 rw [hf,aD] at hF
 rw [hU]
 clear hU hE hf hz
 generalize (ae T q).1=d at *
 generalize (ae T q).2.1=nm at *
 generalize (aS T p).1=n at *
 have Ze:=oU nu (nm:=nm) (n:=n) hd
 have hnd:n≠d:=by rintro rfl;rw [hd] at hn;cases hn
 have Fb:fT T d nm n n=some (.file b x):=by rw [jo hd,ah _ hnd];exact hn
 have hstep:∀w1,Below w.heap.size w w1→Calls Tryz.prog 309 #[qZ (some (G d)) nm,.int .i64 n] w1 fun e w'=>(∃v,e=.returned v)∧dB w' r gN s (fT T d nm n) (aL T) B G V O∧Stp w w' O O:=fun w1 b1=>by
  have h1:=h.below b1
  refine (Fv (h1.kr d C hd) (by unfold maxLen;omega) nm (by omega) (by simp only [hl,Option.map_none]) n).mono ?_
  rintro e w2 ⟨hv,sm,g2⟩
  exact ⟨hv,h1.add hd g2 sm,(Stp.below b1).trans (.grown g2 (h1.lQ d C hd))⟩
 have hcn:=Ze n
 rw [if_pos rfl] at hcn
 have hfin:∀w2,dB w2 r gN s (fT T d nm n) (aL T) B G V O→PT (w2.setCell ⟨B n,2,none⟩ (.int .i64 (aL (fT T d nm n) n:Int))) r (fT T d nm n) O:=fun w2 h2=>
  ⟨gN,s,B,G,V,(h2.count Fb (aL (fT T d nm n) n)).as rfl (fun k _=>by
   by_cases e:k=n
   ·rw [if_pos e,e]
   ·rw [if_neg e];have:=Ze k;rw [if_neg e] at this;omega)⟩
 have hnc:∀w2,dB w2 r gN s (fT T d nm n) (aL T) B G V O→w2.cell? ⟨B n,2,none⟩=some (.int .i64 (aL T n:Int))∧w2.frozen? ⟨B n,2,none⟩=false∧O (B n):=fun w2 h2=>⟨(h2.Hq Fb).1,h2.pG Fb 2,h2.ownB n (by rw [Fb];rfl)⟩
 have hsub:(aL T n:Int)+1=(aL (fT T d nm n) n:Int):=by omega
 have hwr:wrap64 ((aL T n:Int)+1)=(aL (fT T d nm n) n:Int):=by rw [hsub];unfold wrap64;omega
 generalize (aL T n:Int)=ct at *
 generalize (aL (fT T d nm n) n:Int)=cd at *
 generalize fT T d nm n=TT at *
 clear Ze hcb hcn nu hT h hC hm hsub Fb Wy
 go_enter Tryz.func268,Tryz.ntmps268
 go_wp2_with (first
  |(go_at_call 307;refine hF.mono ?_;rintro e w1 ⟨rfl,b1⟩;have Fs:=Mm w1 b1;have tC:=sS w1 b1)
  |(go_at_call 242;refine Fs.mono ?_;rintro e w' ⟨rfl,hw'⟩;subst w')
  |(go_at_call 308;refine tC.mono ?_;rintro e w2 ⟨rfl,b2⟩;have b9:Below w.heap.size w (w2.alloc (.cells #[.map (some (G d)),tx nm] 408)):=(b1.trans (b2.mono b1.size)).alloc (Nat.le_trans b1.size b2.size) _;have hS:=hstep _ b9)
  |(go_at_call 309;refine hS.mono ?_;rintro e w3 ⟨⟨v,rfl⟩,h3,vT⟩;obtain ⟨y2,yf,yo⟩:=hnc w3 h3))
 go_ret
 exact ⟨rfl,hfin _ h3,vT.trans (.cell _ yo)⟩
theorem PT.RY (h:PT w r T O) (hT:bE T) (p q:List UInt8) (hp:p.length<100000) (hq:q.length<100000) (m:Int) (hm:w.cell? ⟨4,0,none⟩=some (.int .i64 m)) (hC:∀k C,T k=some (.dir C)→C.length≤1000) :
 Calls Tryz.prog 268 #[wp r,tx p,tx q] w fun e w'=>e=.returned (aJ (nZ T p q))∧PT w' r (lY T p q) O∧Stp w w' O O:=by
 by_cases hE:nZ T p q=0
 ·rw [hE,aD]
  exact h.OJ hT p q hp hq m hm hC hE
 ·rw [aB hE,show lY T p q=T by unfold lY;rw [if_pos hE]]
  refine (h.RZ hT p q hp hq m hm hE).mono ?_
  rintro e w' ⟨rfl,b⟩
  exact ⟨rfl,h.below b,.below b⟩
end
theorem xN (p q:List UInt8) (w:World) :
 Calls Tryz.prog 263 #[tx p,tx q] w fun e w'=>e=.returned (.bool (q.isPrefixOf p))∧w'=w:=
 Any.strings_HasPrefix Tryz.prefixUL ⟨p.toArray⟩ ⟨q.toArray⟩ w
theorem sw {T:Wd}(hT:TrOk T) {p q:List UInt8}(h:fw T p q=0):(ae T p).2.2=0∧isName (ae T p).2.1=true∧(∃C n,T (ae T p).1=some (.dir C)∧C.lookup (ae T p).2.1=some n)∧(ae T q).2.2=0∧isName (ae T q).2.1=true∧(∃C,T (ae T q).1=some (.dir C)∧C.lookup (ae T q).2.1=none)∧(p ++ [47]).isPrefixOf q=false:=by
 unfold fw at h
 by_cases hz:(ae T p).2.2=0
 ·rw [if_neg (fun e=>e hz)] at h
  obtain ⟨⟨C,hd⟩,hnm⟩:=dV hT hz
  by_cases hh:lW T (ae T p).1 (ae T p).2.1=none
  ·rw [if_pos hh] at h;omega
  ·rw [if_neg hh] at h
   rw [dR hd] at hh
   obtain ⟨n,hl⟩:∃n,C.lookup (ae T p).2.1=some n:=by
    cases e:C.lookup (ae T p).2.1 with
    |none=>exact absurd e hh
    |some n=>exact ⟨n,rfl⟩
   by_cases hz2:(ae T q).2.2=0
   ·rw [if_neg (fun e=>e hz2)] at h
    obtain ⟨⟨C2,hd2⟩,CQ⟩:=dV hT hz2
    rw [dR hd2] at h
    cases hl2:C2.lookup (ae T q).2.1 with
    |some n2=>rw [hl2] at h;simp at h
    |none=>
     rw [hl2] at h
     simp only [Option.isSome_none,Bool.false_eq_true,if_false] at h
     refine ⟨hz,hnm,⟨C,n,hd,hl⟩,hz2,CQ,⟨C2,hd2,hl2⟩,?_⟩
     cases e:(p ++ [47]).isPrefixOf q with
     |false=>rfl
     |true=>rw [e] at h;simp at h
   ·rw [if_pos hz2] at h;exact absurd h hz2
 ·rw [if_pos hz] at h;exact absurd h hz
section
variable {w w':World}{r gN s:Nat}{T:Wd}{Z:Int→Nat}{B G:Int→Nat}{V:Int→Value}{O:Nat→Prop}
theorem Am (p:List UInt8):((⟨p.toArray⟩:ByteArray) ++ ⟨#[47]⟩)=⟨(p ++ [47]).toArray⟩:=Jz p [47]
theorem PT.uo (h:PT w r T O) (hT:bE T) (p q:List UInt8) (hp:p.length<100000) (hq:q.length<100000) (m:Int) (hm:w.cell? ⟨4,0,none⟩=some (.int .i64 m)) (hE:fw T p q≠0) :
 Calls Tryz.prog 270 #[wp r,tx p,tx q] w fun e w'=>e=.returned (eX (fw T p q))∧Below w.heap.size w w':=by
 obtain ⟨gN,s,B,G,V,h⟩:=h
 have hs1:=h.num.pos hT.toTrOk
 unfold fw at hE ⊢
 by_cases hz:(ae T p).2.2=0
 ·rw [if_neg (fun e=>e hz)] at hE ⊢
  cases hh:lW T (ae T p).1 (ae T p).2.1 with
  |none=>
   rw [if_pos rfl]
   have CF:=h.xD hT.toTrOk hs1 p hp m hm hz hh
   clear hE hh
   go_enter Tryz.func270,Tryz.ntmps270
   go_wp2_with (go_at_call 310;refine CF.mono ?_;rintro e w1 ⟨rfl,b1⟩)
   go_ret
   refine ⟨rfl,?_⟩
   repeat first|exact b1|refine Below.alloc ?_ (by first|omega|(have:=b1.size;omega) | (simp<;>omega)) _
  |some n=>
   rw [hh] at hE
   rw [if_neg (by simp)] at hE ⊢
   have CF:=h.nK hT.toTrOk hs1 p hp m hm hz hh
   have Qp:∀w1,Below w.heap.size w w1→∀o,Below w.heap.size w (w1.alloc o):=fun w1 b1 o=>b1.alloc b1.size _
   by_cases hz2:(ae T q).2.2=0
   ·rw [if_neg (fun e=>e hz2)] at hE ⊢
    cases WO:lW T (ae T q).1 (ae T q).2.1 with
    |some n'=>
     rw [if_pos (show (some n').isSome=true from rfl)]
     have sS:=fun w1 (b1:Below w.heap.size w w1)=>(h.below b1).qQ hT.toTrOk hs1 q hq m (aT hm b1) hz2 WO
     clear hE hh WO hz hz2
     generalize (ae T p).1=d at *
     generalize (ae T p).2.1=nm at *
     go_enter Tryz.func270,Tryz.ntmps270
     go_wp2_with (first
      |(go_at_call 310;refine CF.mono ?_;rintro e w1 ⟨rfl,b1⟩;have tC:=sS _ (Qp w1 b1 (.cells #[.map (some (G d)),tx nm] 408)))
      |(go_at_call 308;refine tC.mono ?_;rintro e w2 ⟨rfl,b2⟩))
     go_ret
     have b8:=Qp w1 b1 (.cells #[.map (some (G d)),tx nm] 408)
     have b9:Below w.heap.size w w2:=b8.trans (b2.mono b8.size)
     refine ⟨rfl,?_⟩
     repeat first|exact b9|refine Below.alloc ?_ (by first|omega|(have:=b9.size;omega) | (simp<;>omega)) _
    |none=>
     rw [WO] at hE
     simp only [Option.isSome_none,Bool.false_eq_true,if_false] at hE ⊢
     cases hpx:(p ++ [47]).isPrefixOf q with
     |false=>rw [hpx] at hE;exact absurd (by simp) hE
     |true=>
      rw [if_pos rfl]
      have sS:=fun w1 (b1:Below w.heap.size w w1)=>(h.below b1).lD hT.toTrOk hs1 q hq m (aT hm b1) hz2 WO
      have WS:=xN q (p ++ [47])
      rw [hpx] at WS
      have aaj:=Am p
      have hbig:¬9223372036854775807<p.length+1:=by omega
      clear hE hh WO hz hz2 hpx
      generalize (ae T p).1=d at *
      generalize (ae T p).2.1=nm at *
      generalize (ae T q).1=d2 at *
      generalize (ae T q).2.1=Aw at *
      generalize p ++ [47]=p2 at *
      go_enter Tryz.func270,Tryz.ntmps270
      go_wp2_with (first
       |(go_at_call 310;refine CF.mono ?_;rintro e w1 ⟨rfl,b1⟩;have tC:=sS _ (Qp w1 b1 (.cells #[.map (some (G d)),tx nm] 408)))
       |(go_at_call 308;refine tC.mono ?_;rintro e w2 ⟨rfl,b2⟩)
       |(go_at_call 263;refine (WS _).mono ?_;rintro e w' ⟨rfl,hw'⟩;subst w'))
      go_ret
      have b8:=Qp w1 b1 (.cells #[.map (some (G d)),tx nm] 408)
      have b9:Below w.heap.size w w2:=b8.trans (b2.mono b8.size)
      refine ⟨rfl,?_⟩
      repeat first|exact b9|refine Below.alloc ?_ (by first|omega|(have:=b9.size;omega) | (simp<;>omega)) _
   ·rw [if_pos hz2] at hE ⊢
    have sS:=fun w1 (b1:Below w.heap.size w w1)=>(h.below b1).xc hT.toTrOk hs1 q hq m (aT hm b1) hz2
    clear hE hh hz
    generalize (ae T p).1=d at *
    generalize (ae T p).2.1=nm at *
    generalize (ae T q).2.2=z at *
    go_enter Tryz.func270,Tryz.ntmps270
    go_wp2_with (first
     |(go_at_call 310;refine CF.mono ?_;rintro e w1 ⟨rfl,b1⟩;have tC:=sS _ (Qp w1 b1 (.cells #[.map (some (G d)),tx nm] 408)))
     |(go_at_call 308;refine tC.mono ?_;rintro e w2 ⟨rfl,b2⟩))
    go_ret
    have b8:=Qp w1 b1 (.cells #[.map (some (G d)),tx nm] 408)
    have b9:Below w.heap.size w w2:=b8.trans (b2.mono b8.size)
    refine ⟨rfl,?_⟩
    repeat first|exact b9|refine Below.alloc ?_ (by first|omega|(have:=b9.size;omega) | (simp<;>omega)) _
 ·rw [if_pos hz] at hE ⊢
  have CF:=h.zu hT.toTrOk hs1 p hp m hm hz
  generalize (ae T p).2.2=z at *
  go_enter Tryz.func270,Tryz.ntmps270
  go_wp2_with (go_at_call 310;refine CF.mono ?_;rintro e w1 ⟨rfl,b1⟩)
  go_ret
  refine ⟨rfl,?_⟩
  repeat first|exact b1|refine Below.alloc ?_ (by first|omega|(have:=b1.size;omega) | (simp<;>omega)) _
theorem uQ (hT:bE T) {d n d2:Int}{nm Aw:Nm}{C C2:List (Nm×Int)}(hd:T d=some (.dir C)) (hl:C.lookup nm=some n) (hd2:T d2=some (.dir C2)) (hl2:C2.lookup Aw=none) (CQ:isName Aw=true) :
 ∃C3,bg T d nm d2=some (.dir C3)∧C3.lookup Aw=none∧C3.length≤C2.length∧(∀k,aL (fT (bg T d nm) d2 Aw n) k=aL T k)∧bE (fT (bg T d nm) d2 Aw n):=by
 obtain ⟨C3,hd3,hl3,hlen⟩:=SE (d:=d) (nm:=nm) hd2 hl2
 have hok:TrOk (bg T d nm):=hT.toTrOk.del d nm
 have hc:∀k,aL (fT (bg T d nm) d2 Aw n) k=aL T k:=fun k=>by
  rw [oU hok hd3];exact BU hT.toTrOk hd hl k
 have hsome:=hT.child d C nm n hd hl
 have hsd:∀k nd,bg T d nm k=some nd→∃kU,T k=some kU∧dL kU=dL nd:=fun k nd e=>by
  by_cases e1:k=d
  ·subst e1;rw [iT hd,ak] at e;cases e;exact ⟨_,hd,rfl⟩
  ·rw [iT hd,ah _ e1] at e;exact ⟨nd,e,rfl⟩
 refine ⟨C3,hd3,hl3,hlen,hc,?_⟩
 refine { toTrOk:=hok.add hd3 hl3 CQ (by rw [LF];exact hsome),nr:=by rw [hc];exact hT.nr,lv:=fun k nd e=>?_ }
 rw [hc]
 have:∃kU,T k=some kU∧dL kU=dL nd:=by
  by_cases e1:k=d2
  ·subst e1;rw [jo hd3,ak] at e;cases e
   obtain ⟨kU,h1,h2⟩:=hsd k _ hd3
   exact ⟨kU,h1,h2⟩
  ·rw [jo hd3,ah _ e1] at e;exact hsd k nd e
 obtain ⟨kU,h1,h2⟩:=this
 rw [←h2]
 exact hT.lv k kU h1
theorem bE.rename (hT:bE T) (p q:List UInt8):bE (eO T p q):=by
 unfold eO
 by_cases hE:fw T p q=0
 ·rw [if_neg (fun e=>e hE)]
  obtain ⟨_,_,⟨C,n,hd,hl⟩,_,CQ,⟨C2,hd2,hl2⟩,_⟩:=sw hT.toTrOk hE
  rw [dR hd,hl]
  obtain ⟨_,_,_,_,_,h⟩:=uQ hT hd hl hd2 hl2 CQ
  exact h
 ·rw [if_pos hE];exact hT
theorem PT.qL (h:PT w r T O) (hT:bE T) (p q:List UInt8) (hp:p.length<100000) (hq:q.length<100000) (m:Int) (hm:w.cell? ⟨4,0,none⟩=some (.int .i64 m)) (hC:∀k C,T k=some (.dir C)→C.length≤1000) (hE:fw T p q=0) :
 Calls Tryz.prog 270 #[wp r,tx p,tx q] w fun e w'=>e=.returned .nilIface∧PT w' r (eO T p q) O∧Stp w w' O O:=by
 obtain ⟨gN,s,B,G,V,h⟩:=h
 have hs1:=h.num.pos hT.toTrOk
 have nu:=hT.toTrOk
 obtain ⟨hz,hnm,⟨C,n,hd,hl⟩,hz2,CQ,⟨C2,hd2,hl2⟩,hpx⟩:=sw nu hE
 have hU:eO T p q=fT (bg T (ae T p).1 (ae T p).2.1) (ae T q).1 (ae T q).2.1 n:=by unfold eO;rw [if_neg (fun e=>e hE),dR hd,hl];rfl
 have CF:=h.nK nu hs1 p hp m hm hz (n:=n) (by rw [dR hd];exact hl)
 have sS:=fun w1 (b1:Below w.heap.size w w1)=>(h.below b1).lD nu hs1 q hq m (aT hm b1) hz2 (by rw [dR hd2];exact hl2)
 obtain ⟨C3,hd3,hl3,hlen3,hcc,_⟩:=uQ hT hd hl hd2 hl2 CQ
 have WS:=xN q (p ++ [47])
 rw [hpx] at WS
 have aaj:=Am p
 have hbig:¬9223372036854775807<p.length+1:=by omega
 have hnl:=dW hnm
 have aeh:=dW CQ
 have Wy:=hC _ C2 hd2
 rw [hU]
 have Qp:∀w1,Below w.heap.size w w1→∀o,Below w.heap.size w (w1.alloc o):=fun w1 b1 o=>b1.alloc b1.size _
 clear hU hE hz hz2 hpx
 generalize (ae T p).1=d at *
 generalize (ae T p).2.1=nm at *
 generalize (ae T q).1=d2 at *
 generalize (ae T q).2.1=Aw at *
 generalize p ++ [47]=p2 at *
 have hstep:∀w1,Below w.heap.size w w1→Calls Tryz.prog 311 #[qZ (some (G d)) nm] w1 fun e w'=>(∃v,e=.returned v)∧dB w' r gN s (bg T d nm) (aL T) B G V O∧Stp w w' O O∧Stp w1 w' O O:=fun w1 b1=>by
  have h1:=h.below b1
  refine (Dh (h1.kr d C hd) nm (by omega) (by simp only [hl,Option.map_some,Option.isSome_some])).mono ?_
  rintro e w2 ⟨hv,sm,g2⟩
  exact ⟨hv,h1.del nu hd (by rw [hl];rfl) g2 sm,(Stp.below b1).trans (.grown g2 (h1.lQ d C hd)),.grown g2 (h1.lQ d C hd)⟩
 have hstep2:∀w1,dB w1 r gN s (bg T d nm) (aL T) B G V O→Calls Tryz.prog 309 #[qZ (some (G d2)) Aw,.int .i64 n] w1 fun e w'=>(∃v,e=.returned v)∧PT w' r (fT (bg T d nm) d2 Aw n) O∧Stp w1 w' O O:=fun w1 h1=>by
  refine (Fv (h1.kr d2 C3 hd3) (by unfold maxLen;omega) Aw (by omega) (by simp only [hl3,Option.map_none]) n).mono ?_
  rintro e w2 ⟨hv,sm,g2⟩
  exact ⟨hv,⟨gN,s,B,G,V,(h1.add hd3 g2 sm).as rfl (fun k _=>hcc k)⟩,.grown g2 (h1.lQ d2 C3 hd3)⟩
 have hkp:∀ {w1 w2:World}{i:Nat}{c:Array Value},Stp w1 w2 O O→w.heap.size≤i→w1.heap[i]? = some (.cells c 408)→w2.heap[i]? = some (.cells c 408):=fun {w1 w2 i c} st hi hc=>
  (st.wt.block i (Array.getElem?_eq_some_iff.1 hc).1 (fun ho=>by have:=h.lt i ho;omega)).trans hc
 generalize fT (bg T d nm) d2 Aw n=TT at *
 generalize bg T d nm=TD at *
 clear nu hT hC hm hcc hd3 hl3 Wy
 go_enter Tryz.func270,Tryz.ntmps270
 go_wp2_with (first
  |(go_at_call 310;refine CF.mono ?_;rintro e w1 ⟨rfl,b1⟩;have b8:=Qp w1 b1 (.cells #[.map (some (G d)),tx nm] 408);have tC:=sS _ b8)
  |(go_at_call 308;refine tC.mono ?_;rintro e w2 ⟨rfl,b2⟩
    have b9:Below w.heap.size w w2:=b8.trans (b2.mono b8.size)
    have b10:=Qp w2 b9 (.cells #[.map (some (G d2)),tx Aw] 408)
    have q1:(w2.alloc (.cells #[.map (some (G d2)),tx Aw] 408)).heap[w1.heap.size]? = some (.cells #[.map (some (G d)),tx nm] 408):=kD ((b2.block _ (by simp)).trans (World.alloc_heap_new _ _)) _
    have q2:(w2.alloc (.cells #[.map (some (G d2)),tx Aw] 408)).heap[w2.heap.size]? = some (.cells #[.map (some (G d2)),tx Aw] 408):=World.alloc_heap_new _ _
    obtain ⟨x0,x1,_,_⟩:=aO q1
    have hS:=hstep _ b10)
  |(go_at_call 263;refine (WS _).mono ?_;rintro e w' ⟨rfl,hw'⟩;subst w')
  |(go_at_call 311;refine hS.mono ?_;rintro e w3 ⟨⟨v,rfl⟩,h3,vT,ZJ⟩;obtain ⟨y0,y1,_,_⟩:=aO (hkp ZJ b9.size q2);have hS2:=hstep2 w3 h3)
  |(go_at_call 309;refine hS2.mono ?_;rintro e w4 ⟨⟨v,rfl⟩,h4,Wi⟩))
 go_ret
 exact ⟨rfl,h4,vT.trans Wi⟩
theorem PT.Kh (h:PT w r T O) (hT:bE T) (p q:List UInt8) (hp:p.length<100000) (hq:q.length<100000) (m:Int) (hm:w.cell? ⟨4,0,none⟩=some (.int .i64 m)) (hC:∀k C,T k=some (.dir C)→C.length≤1000) :
 Calls Tryz.prog 270 #[wp r,tx p,tx q] w fun e w'=>e=.returned (aJ (fw T p q))∧PT w' r (eO T p q) O∧Stp w w' O O:=by
 by_cases hE:fw T p q=0
 ·rw [hE,aD]
  exact h.qL hT p q hp hq m hm hC hE
 ·rw [aB hE,show eO T p q=T by unfold eO;rw [if_pos hE]]
  refine (h.uo hT p q hp hq m hm hE).mono ?_
  rintro e w' ⟨rfl,b⟩
  exact ⟨rfl,h.below b,.below b⟩
end
section
variable {w w':World}{r gN s:Nat}{T:Wd}{Z:Int→Nat}{B G:Int→Nat}{V:Int→Value}{O:Nat→Prop}
theorem PT.OE (h:PT w r T O) (hT:bE T) (hs:dm T s) (p:List UInt8) (hp:p.length<100000) (m:Int) (hm:w.cell? ⟨4,0,none⟩=some (.int .i64 m)) (hC:∀k C,T k=some (.dir C)→C.length≤1000) :
 Calls Tryz.prog 267 #[wp r,tx p] w (YJ w r T O s p true):=by
 obtain ⟨gN,s',B,G,V,h⟩:=h
 obtain rfl:=hs.one h.num
 have hsz1:(w.alloc (.map #[] 0)).heap.size=w.heap.size+1:=by simp
 have bA:Below w.heap.size w ((w.alloc (.map #[] 0)).alloc (.cells #[.map (some w.heap.size),.slice none 0 0,.int .i64 0,.int .i64 0] 337)):=((Below.refl _ _).alloc (Nat.le_refl _) _).alloc (by rw [hsz1];omega) _
 have hA:=h.below bA
 have WM:=aT hm bA
 have WV:=zP w
 have hb:=zo w (.map #[] 0) (.cells #[.map (some w.heap.size),.slice none 0 0,.int .i64 0,.int .i64 0] 337)
 have hsm:SMap ((w.alloc (.map #[] 0)).alloc (.cells #[.map (some w.heap.size),.slice none 0 0,.int .i64 0,.int .i64 0] 337)) w.heap.size 0 (fun _=>none):=(SMap.made w).keep (Below.heap_alloc _ _ _ (by rw [hsz1];omega))
 generalize (w.alloc (.map #[] 0)).alloc (.cells #[.map (some w.heap.size),.slice none 0 0,.int .i64 0,.int .i64 0] 337)=wA at *
 by_cases hE:bC T s p=0
 ·have hAdd:=hA.Jk hT p (w.heap.size+1) w.heap.size true hp m WM hC hb (fun ho=>by have:=h.lt _ ho;omega) (fun _=>⟨hsm,fun ho=>by have:=h.lt _ ho;omega⟩) hE
  go_enter Tryz.func267,Tryz.ntmps267
  go_wp2_with (first
   |(go_at_call 132;refine WV.mono ?_;rintro e w' ⟨rfl,hw'⟩;subst w')
   |(go_at_call 306;refine hAdd.mono ?_;rintro e w1 ⟨k,hk,UE,rfl,h1,Cz⟩))
  go_ret2
  refine .inr ⟨hE,k,_,hk,UE,rfl,h1,⟨⟨Cz.os.trans bA.os,Cz.tape.trans bA.tape,Cz.output.trans bA.output,Nat.le_trans bA.size Cz.size,fun i hi hn=>?_⟩,fun i hi=>?_⟩⟩
  ·refine (Cz.block i (Nat.lt_of_lt_of_le hi bA.size) (fun ho=>?_)).trans (bA.block i hi)
   rcases ho with ho|rfl|⟨rfl,e⟩
   ·exact hn ho
   ·omega
   ·omega
  ·rcases hi with ho|rfl|⟨rfl,e⟩
   ·exact .inl ho
   ·exact .inr (by omega)
   ·exact .inr (Nat.le_refl _)
 ·have hAdd:=hA.wM hT.toTrOk p (w.heap.size+1) hp m WM hE
  have hfin:∀e w',e=.returned (.tuple #[.int .i64 0,eX (bC T s p)])→Below w.heap.size w w'→YJ w r T O s p true e w':=fun e w' he b=>.inl ⟨hE,he,⟨gN,s,B,G,V,h.below b⟩,.below b⟩
  generalize bC T s p=z at *
  go_enter Tryz.func267,Tryz.ntmps267
  go_wp2_with (first
   |(go_at_call 132;refine WV.mono ?_;rintro e w' ⟨rfl,hw'⟩;subst w')
   |(go_at_call 306;refine hAdd.mono ?_;rintro e w1 ⟨rfl,b1⟩))
  go_ret2
  exact hfin _ _ rfl (bA.trans (b1.mono bA.size))
end
end Go.Proofs.YtcfhanoekniaaaaGreatDoor

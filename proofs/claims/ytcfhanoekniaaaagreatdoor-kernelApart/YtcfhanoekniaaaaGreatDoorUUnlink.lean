/- Package tree: a name put at a place, and taken away, by their Go text. -/
import Derived.Test.YtcfhanoekniaaaaGreatDoorUTake
import Derived.Test.YtcfhanoekniaaaaGreatDoorShelfV
import Derived.Deep.RegionHeld3
import Derived.Test.YtcfhanoekniaaaaGreatDoorQTab
import Derived.Test.YtcfhanoekniaaaaGreatDoorTubes3
set_option maxHeartbeats 4000000
set_option maxRecDepth 100000
namespace Go.Proofs.YtcfhanoekniaaaaGreatDoor
open Go.RowKit Go.Maps
theorem Le (z:List UInt8) (hz:z.length<100000) (W:World):Calls Tryz.prog 341 #[tx z] W fun e w'=>e=.returned (tx z)∧Below W.heap.size W w':=by
 have hs:(⟨z.toArray⟩:ByteArray).size=z.length:=by simp [ByteArray.size]
 have hC:Calls Tryz.prog 374 #[tx z] W fun e w'=>e=.returned (tx z)∧Below W.heap.size W w':=Any.stringslite_Clone Tryz.cloneSL ⟨z.toArray⟩ W (by rw [hs];omega)
 go_enter Tryz.func341,Tryz.ntmps341
 go_wp2_with (go_at_call 374;refine hC.mono ?_;rintro e w1 ⟨rfl,b1⟩)
 go_ret
 exact ⟨rfl,b1⟩
section
variable {w w':World}
theorem CR {g n:Nat}{M:List UInt8→Option Value}(hS:SMap w g n M) (nm:List UInt8) (hnm:nm.length≤1000) (hM:(M nm).isSome=true) :
 Calls Tryz.prog 311 #[qU (some g) nm] w fun e w'=>(∃v,e=.returned v)∧SMap w' g (n-1) (fun i=>if i=nm then none else M i)∧w.grownBy w' (some g):=by
 have hx:nm.length≤maxLen:=by unfold maxLen;omega
 have hA:SMap (w.alloc (.cells #[.map (some g),tx nm] 408)) g n M:=hS.keep (Below.heap_alloc _ _ _ hS.lt)
 have gA:∀w1,(w.alloc (.cells #[.map (some g),tx nm] 408)).grownBy w1 (some g)→w.grownBy w1 (some g):=fun w1 g1=>
  ⟨g1.os,g1.tape,g1.output,by have:=g1.size;simp at this;omega,fun i hi hne=>(g1.block i (by simp;omega) hne).trans (Below.heap_alloc _ _ _ hi)⟩
 go_enter Tryz.func311,Tryz.ntmps311
 go_wp2_with (refine D9 rfl _ _ 262 rfl 3 Tryz.underlying262 g _ _ rfl hA nm rfl hx ?_;intro w1 sm g1;rw [if_pos hM] at sm)
 go_end0
 exact ⟨⟨_,rfl⟩,sm,gA _ g1⟩
theorem EU {g n:Nat}{M:List UInt8→Option Value}(hS:SMap w g n M) (hn:n<maxLen) (nm:List UInt8) (hnm:nm.length≤1000) (hM:M nm=none) (k:Int) :
 Calls Tryz.prog 309 #[qU (some g) nm,.int .i64 k] w fun e w'=>(∃v,e=.returned v)∧SMap w' g (n+1) (fun i=>if i=nm then some (.int .i64 k) else M i)∧w.grownBy w' (some g):=by
 have hx:nm.length≤maxLen:=by unfold maxLen;omega
 have hgl:=hS.lt
 have hC:=Le nm (by omega)
 have hput:∀W w1,Below W.heap.size W w1→Below w.heap.size w W→∃w2,(Instr.mapUpdate 262 (.map (some g)) (tx nm) (.int .i64 k)).run Tryz.prog w1=.ok () w2∧SMap w2 g (n+1) (fun i=>if i=nm then some (.int .i64 k) else M i)∧w.grownBy w2 (some g):=fun W w1 b1 bW=>by
  have b9:Below w.heap.size w w1:=bW.trans (b1.mono bW.size)
  have hq:SMap w1 g n M:=hS.keep (b9.block g hgl)
  obtain ⟨w2,r1,r2,r3⟩:=hq.put Tryz.underlying262 hn nm hx (.int .i64 k)
  rw [hM] at r2
  exact ⟨w2,r1,r2,⟨r3.os.trans b9.os,r3.tape.trans b9.tape,r3.output.trans b9.output,Nat.le_trans b9.size r3.size,fun i hi hne=>(r3.block i (Nat.lt_of_lt_of_le hi b9.size) hne).trans (b9.block i hi)⟩⟩
 have ZG:∀ {W w1:World},Below W.heap.size W w1→W.heap[w.heap.size]? = some (.cells #[.map (some g),tx nm] 408)→w1.heap[w.heap.size]? = some (.cells #[.map (some g),tx nm] 408):=fun {W w1} b1 h=>(b1.block _ (Array.getElem?_eq_some_iff.1 h).1).trans h
 have hA:(w.alloc (.cells #[.map (some g),tx nm] 408)).heap[w.heap.size]? = some (.cells #[.map (some g),tx nm] 408):=World.alloc_heap_new _ _
 have bA:Below w.heap.size w (w.alloc (.cells #[.map (some g),tx nm] 408)):=(Below.refl _ _).alloc (Nat.le_refl _) _
 go_enter Tryz.func309,Tryz.ntmps309
 go_wp2_with fail
 generalize w.alloc (.cells #[.map (some g),tx nm] 408)=WA at *
 obtain ⟨c0,c1,_,_⟩:=aL hA
 clear hS hM
 go_region_with (go_at_call 341;refine (hC _).mono ?_;rintro e w1 ⟨rfl,b1⟩;obtain ⟨w2,hrun,sm,g2⟩:=hput _ w1 b1 (by first|exact bA|exact nJ bA _|exact uT bA);obtain ⟨d0,d1,_,_⟩:=aL (ZG b1 (by exact hA)))
 all_goals
  go_wp2_with fail
  go_end0
  exact ⟨⟨_,rfl⟩,sm,g2⟩
end
theorem oM {w:World}{j o:Nat}{es:Array MapEntry}{cl:Nat}(h:w.heap[j]? = some (.map es cl)):w.cell? ⟨j,o,none⟩=none:=by simp [World.cell?,h]
section
variable {w w':World}{r gN s:Nat}{T:Wd}{Z:Int→Nat}{B G:Int→Nat}{V:Int→Value}{O:Nat→Prop}
theorem Dat.grown {v:Value}{b:List UInt8}{j:Nat}(h:Dat w v b) (hg:w.grownBy w' (some j)) (hj:∀x,w.cell? ⟨j,0,none⟩≠some (.int .u8 x)):Dat w' v b:=by
 rcases h with h|⟨g,c,rfl,hc,hl,hi⟩
 ·exact .inl h
 ·refine .inr ⟨g,c,rfl,hc,Nat.lt_of_lt_of_le hl hg.size,fun i h=>?_⟩
  have hne:g≠j:=fun e=>hj _ (by rw [←e];exact hi 0 (by omega))
  rw [World.cell?_of_block (w:=w) (a:=⟨g,i,none⟩) (hg.block g hl (fun e=>hne (Option.some.inj e)))];exact hi i h
theorem dw.SY (h:dw w r gN s T Z B G V O) {d:Int}{C C':List (Nm×Int)}(hd:T d=some (.dir C)) (hg:w.grownBy w' (some (G d)))
 (sm:SMap w' (G d) C'.length (fun i=>(C'.lookup i).map (.int .i64 ·))):dw w' r gN s (bN T d (.dir C')) Z B G V O:=by
 obtain ⟨es,cl,hm⟩:=(h.jS d C hd).isMap
 have hk:∀i,i<w.heap.size→i≠G d→w'.heap[i]? = w.heap[i]? := fun i hi hne=>hg.block i hi (fun e=>hne (Option.some.inj e))
 have hrG:r≠G d:=fun e=>by rw [←e,h.head] at hm;cases hm
 have hBG:∀k nd,T k=some nd→B k≠G d:=fun k nd e1 e=>by rw [←e,h.node k nd e1] at hm;cases hm
 have hold:∀k nd,bN T d (.dir C') k=some nd→(k=d∧nd=.dir C')∨(k≠d∧T k=some nd):=fun k nd e=>by
  by_cases e1:k=d
  ·subst e1;rw [ak] at e;cases e;exact .inl ⟨rfl,rfl⟩
  ·rw [ag _ e1] at e;exact .inr ⟨e1,e⟩
 have uW:∀k D,bN T d (.dir C') k=some (.dir D)→∃D',T k=some (.dir D'):=fun k D e=>by
  rcases hold k _ e with ⟨rfl,_⟩|⟨_,e⟩
  ·exact ⟨C,hd⟩
  ·exact ⟨D,e⟩
 have hsm:∀k,(bN T d (.dir C') k).isSome=(T k).isSome:=fun k=>by
  by_cases e1:k=d
  ·subst e1;rw [ak,hd];rfl
  ·rw [ag _ e1]
 refine ⟨(hk r (h.lt _ h.vM) hrG).trans h.head,?_,fun k nd e=>?_,fun k D e=>?_,fun k b x e=>?_,fun k D e=>?_,fun k k' D D' e e' hG=>?_,fun k k' e e'=>h.I7 k k' (by rw [←hsm];exact e) (by rw [←hsm];exact e'),h.vM,h.ql,fun k e=>h.ownB k (by rw [←hsm];exact e),fun k D e=>?_,fun k b x i e=>?_,fun i hi=>Nat.lt_of_lt_of_le (h.lt i hi) hg.size⟩
 ·have e:(fun k=>(bN T d (.dir C') k).map (fun _=>wp (B k)))=fun k=>(T k).map (fun _=>wp (B k)):=by
   funext k
   by_cases e1:k=d
   ·subst e1;rw [ak,hd];rfl
   ·rw [ag _ e1]
  rw [e]
  exact h.map.keep (hk gN h.map.lt (fun e=>h.sep d C hd e.symm))
 ·rcases hold k nd e with ⟨rfl,rfl⟩|⟨_,e⟩
  ·exact (hk _ (h.lt _ (h.ownB k (by rw [hd];rfl))) (hBG k _ hd)).trans (h.node k (.dir C) hd)
  ·exact (hk _ (h.lt _ (h.ownB k (by rw [e];rfl))) (hBG k _ e)).trans (h.node k _ e)
 ·rcases hold k _ e with ⟨rfl,e9⟩|⟨e1,e⟩
  ·cases e9;exact sm
  ·exact (h.jS k D e).keep (hk _ (h.jS k D e).lt (fun e2=>e1 (h.inj k d D C e hd e2)))
 ·rcases hold k _ e with ⟨_,e⟩|⟨_,e⟩
  ·cases e
  ·exact (h.data k b x e).grown hg (fun y hy=>by rw [oM hm] at hy;cases hy)
 ·obtain ⟨D',e'⟩:=uW k D e
  exact h.sep k D' e'
 ·obtain ⟨D1,e1⟩:=uW k D e
  obtain ⟨D2,e2⟩:=uW k' D' e'
  exact h.inj k k' D1 D2 e1 e2 hG
 ·obtain ⟨D',e'⟩:=uW k D e
  exact h.lI k D' e'
 ·rcases hold k _ e with ⟨_,e⟩|⟨_,e⟩
  ·cases e
  ·exact h.Ct k b x i e
theorem dw.add (h:dw w r gN s T Z B G V O) {d n:Int}{nm:Nm}{C:List (Nm×Int)}(hd:T d=some (.dir C)) (hg:w.grownBy w' (some (G d)))
 (sm:SMap w' (G d) (C.length+1) (fun i=>if i=nm then some (.int .i64 n) else (C.lookup i).map (.int .i64 ·))):dw w' r gN s (fI T d nm n) Z B G V O:=by
 rw [jf hd]
 refine h.SY hd hg ?_
 have e2:(fun i=>if i=nm then some (.int .i64 n) else (C.lookup i).map (.int .i64 ·))=fun i=>(((nm,n) :: C).lookup i).map (Value.int .i64 ·):=by
  funext i
  by_cases ei:i=nm
  ·subst ei;simp [List.lookup]
  ·have:(i == nm)=false:=by simp [ei]
   simp [List.lookup,this,ei]
 rw [e2] at sm
 exact sm
theorem dw.del (h:dw w r gN s T Z B G V O) (hT:TrOk T) {d:Int}{nm:Nm}{C:List (Nm×Int)}(hd:T d=some (.dir C)) (hy:(C.lookup nm).isSome=true) (hg:w.grownBy w' (some (G d)))
 (sm:SMap w' (G d) (C.length-1) (fun i=>if i=nm then none else (C.lookup i).map (.int .i64 ·))):dw w' r gN s (aW T d nm) Z B G V O:=by
 rw [iJ hd]
 refine h.SY hd hg ?_
 have e2:(fun i=>if i=nm then none else (C.lookup i).map (.int .i64 ·))=fun i=>((C.filter (fun x=>x.1 != nm)).lookup i).map (Value.int .i64 ·):=by
  funext i
  rw [nE]
  by_cases ei:i=nm<;>simp [ei]
 rw [e2] at sm
 rw [xZ (hT.nodup d C hd) hy]
 exact sm
theorem dw.apart (h:dw w r gN s T Z B G V O) {k:Int}{nd:Nd}(hk:T k=some nd):r≠B k∧gN≠B k∧(∀i C,T i=some (.dir C)→G i≠B k)∧(∀i,(T i).isSome=true→i≠k→B i≠B k)∧∀x,w.cell? ⟨B k,0,none⟩≠some (.int .u8 x):=by
 have hn:=h.node k nd hk
 refine ⟨fun e=>?_,fun e=>?_,fun i C hi e=>?_,fun i hi hne e=>hne (h.I7 i k hi (by rw [hk];rfl) e),fun x e=>?_⟩
 ·rw [←e,h.head] at hn;injection hn with hn;injection hn with h1 h2
  exact absurd h2 (by decide)
 ·obtain ⟨es,cl,hm⟩:=h.map.isMap
  rw [e,hn] at hm;cases hm
 ·obtain ⟨es,cl,hm⟩:=(h.jS i C hi).isMap
  rw [e,hn] at hm;cases hm
 ·rw [cell_of_row w (B k) 0 _ _ _ hn] at e
  cases nd<;>(simp [dG] at e)
theorem dw.EW {kK:Nd}{Z':Int→Nat}{V':Int→Value}{O':Nat→Prop}(h:dw w r gN s T Z B G V O) {k:Int}{nd:Nd}(hk:T k=some nd) (hg:w.grownBy w' (some (B k)))
 (hnew:w'.heap[B k]? = some (.cells (dG G V' Z' k kK) 337)) (hZ:∀i,i≠k→Z' i=Z i) (hV:∀i,i≠k→V' i=V i)
 (hkind:(∃C,nd=.dir C∧kK=.dir C)∨∃b x b' x',nd=.file b x∧kK=.file b' x'∧Dat w' (V' k) b'∧∀i,yO (V' k)=some i→O' i)
 (hO:∀i,O i→O' i) (hlt:∀i,O' i→i<w'.heap.size):dw w' r gN s (bN T k kK) Z' B G V' O':=by
 obtain ⟨a1,a2,a3,a4,a5⟩:=h.apart hk
 have hkp:∀i,i<w.heap.size→i≠B k→w'.heap[i]? = w.heap[i]? := fun i hi hne=>hg.block i hi (fun e=>hne (Option.some.inj e))
 have hsm:∀i,(bN T k kK i).isSome=(T i).isSome:=fun i=>by
  by_cases e1:i=k
  ·subst e1;rw [ak,hk];rfl
  ·rw [ag _ e1]
 have uW:∀i D,bN T k kK i=some (.dir D)→T i=some (.dir D):=fun i D e=>by
  by_cases e1:i=k
  ·subst e1
   rw [ak] at e
   rcases hkind with ⟨C,rfl,rfl⟩|⟨b,x,b',x',rfl,rfl,_⟩
   ·cases e;exact hk
   ·cases e
  ·rw [ag _ e1] at e;exact e
 have hcell:∀i TH,i≠k→dG G V' Z' i TH=dG G V Z i TH:=fun i TH e=>by
  cases TH<;>simp [dG,hZ i e,hV i e]
 refine ⟨(hkp r (h.lt _ h.vM) a1).trans h.head,?_,fun i TH e=>?_,fun i D e=>(h.jS i D (uW i D e)).keep (hkp _ (h.jS i D (uW i D e)).lt (a3 i D (uW i D e))),fun i b x e=>?_,fun i D e=>h.sep i D (uW i D e),fun i i' D D' e e'=>h.inj i i' D D' (uW i D e) (uW i' D' e'),fun i i' e e'=>h.I7 i i' (by rw [←hsm];exact e) (by rw [←hsm];exact e'),hO _ h.vM,hO _ h.ql,fun i e=>hO _ (h.ownB i (by rw [←hsm];exact e)),fun i D e=>hO _ (h.lI i D (uW i D e)),fun i b x j e hj=>?_,hlt⟩
 ·have e:(fun i=>(bN T k kK i).map (fun _=>wp (B i)))=fun i=>(T i).map (fun _=>wp (B i)):=by
   funext i
   by_cases e1:i=k
   ·subst e1;rw [ak,hk];rfl
   ·rw [ag _ e1]
  rw [e]
  exact h.map.keep (hkp gN h.map.lt a2)
 ·by_cases e1:i=k
  ·subst e1;rw [ak] at e;cases e;exact hnew
  ·rw [ag _ e1] at e
   rw [hcell i TH e1]
   exact (hkp _ (h.lt _ (h.ownB i (by rw [e];rfl))) (a4 i (by rw [e];rfl) e1)).trans (h.node i TH e)
 ·by_cases e1:i=k
  ·subst e1
   rw [ak] at e
   rcases hkind with ⟨C,rfl,rfl⟩|⟨b0,x0,b',x',rfl,rfl,hdat,_⟩
   ·cases e
   ·cases e;exact hdat
  ·rw [ag _ e1] at e
   rw [hV i e1]
   exact (h.data i b x e).grown hg a5
 ·by_cases e1:i=k
  ·subst e1
   rw [ak] at e
   rcases hkind with ⟨C,rfl,rfl⟩|⟨b0,x0,b',x',rfl,rfl,_,hown⟩
   ·cases e
   ·exact hown j hj
  ·rw [ag _ e1] at e
   rw [hV i e1] at hj
   exact hO _ (h.Ct i b x j e hj)
theorem dw.as {Z':Int→Nat}{T':Wd}(h:dw w r gN s T Z B G V O) (hT:T'=T) (hZ:∀k,(T k).isSome=true→Z' k=Z k):dw w r gN s T' Z' B G V O:=by
 subst hT
 refine { h with node:=fun k nd e=>?_ }
 have e2:dG G V Z' k nd=dG G V Z k nd:=by cases nd<;>simp [dG,hZ k (by rw [e];rfl)]
 rw [e2];exact h.node k nd e
theorem JJ {T:Wd}{k:Int}{nd:Nd}(h:T k=some nd):bN T k nd=T:=by
 funext i
 by_cases e:i=k
 ·subst e;rw [ak,h]
 ·rw [ag _ e]
theorem dw.count (h:dw w r gN s T Z B G V O) {k:Int}{nd:Nd}(hk:T k=some nd) (z:Nat):dw (w.setCell ⟨B k,2,none⟩ (.int .i64 (z:Int))) r gN s T (fun i=>if i=k then z else Z i) B G V O:=by
 have hg:w.grownBy (w.setCell ⟨B k,2,none⟩ (.int .i64 (z:Int))) (some (B k)):=⟨rfl,rfl,rfl,by simp [World.setCell],fun i _ hne=>Below.heap_setCell _ _ _ _ (fun e=>hne (by rw [e]))⟩
 have hz:(w.setCell ⟨B k,2,none⟩ (.int .i64 (z:Int))).heap.size=w.heap.size:=by simp
 have:=h.EW (kK:=nd) (Z':=fun i=>if i=k then z else Z i) (V':=V) (O':=O) hk hg (by
  rw [aN w (B k) 2 _ _ _ _ (h.node k nd hk)]
  cases nd<;>(simp [dG])) (fun i e=>if_neg e) (fun _ _=>rfl) (by
  cases nd with
  |dir C=>exact .inl ⟨C,rfl,rfl⟩
  |file b x=>exact .inr ⟨b,x,b,x,rfl,rfl,(h.data k b x hk).grown hg (h.apart hk).2.2.2.2,fun i hi=>h.Ct k b x i hk hi⟩) (fun _ h=>h) (fun i hi=>by rw [hz];exact h.lt i hi)
 rw [JJ hk] at this
 exact this
theorem dw.held (h:dw w r gN s T Z B G V O) {k:Int}{b:List UInt8}{x:Nat}(hk:T k=some (.file b x)) (z:Nat):dw (w.setCell ⟨B k,3,none⟩ (.int .i64 (z:Int))) r gN s (bN T k (.file b z)) Z B G V O:=by
 have hg:w.grownBy (w.setCell ⟨B k,3,none⟩ (.int .i64 (z:Int))) (some (B k)):=⟨rfl,rfl,rfl,by simp [World.setCell],fun i _ hne=>Below.heap_setCell _ _ _ _ (fun e=>hne (by rw [e]))⟩
 have hz:(w.setCell ⟨B k,3,none⟩ (.int .i64 (z:Int))).heap.size=w.heap.size:=by simp
 exact h.EW (kK:=.file b z) (Z':=Z) (V':=V) (O':=O) hk hg (by
  rw [aN w (B k) 3 _ _ _ _ (h.node k _ hk)]
  simp [dG]) (fun _ _=>rfl) (fun _ _=>rfl) (.inr ⟨b,x,b,z,rfl,rfl,(h.data k b x hk).grown hg (h.apart hk).2.2.2.2,fun i hi=>h.Ct k b x i hk hi⟩) (fun _ h=>h) (fun i hi=>by rw [hz];exact h.lt i hi)
theorem dw.bytes (h:dw w r gN s T Z B G V O) {k:Int}{b b':List UInt8}{x:Nat}(hk:T k=some (.file b x)) {v:Value}(hd:Dat w v b'):∃V' O',dw (w.setCell ⟨B k,1,none⟩ v) r gN s (bN T k (.file b' x)) Z B G V' O'∧∀i,O' i↔O i∨yO v=some i:=by
 have hg:w.grownBy (w.setCell ⟨B k,1,none⟩ v) (some (B k)):=⟨rfl,rfl,rfl,by simp [World.setCell],fun i _ hne=>Below.heap_setCell _ _ _ _ (fun e=>hne (by rw [e]))⟩
 have hz:(w.setCell ⟨B k,1,none⟩ v).heap.size=w.heap.size:=by simp
 refine ⟨fun i=>if i=k then v else V i,fun i=>O i∨yO v=some i,?_,fun _=>Iff.rfl⟩
 refine h.EW (kK:=.file b' x) (Z':=Z) hk hg (by
  rw [aN w (B k) 1 _ _ _ _ (h.node k _ hk)]
  simp [dG]) (fun _ _=>rfl) (fun _ e=>if_neg e) (.inr ⟨b,x,b',x,rfl,rfl,?_,fun i hi=>?_⟩) (fun _ h=>.inl h) (fun i hi=>?_)
 ·rw [if_pos rfl];exact hd.grown hg (h.apart hk).2.2.2.2
 ·rw [if_pos rfl] at hi;exact .inr hi
 ·rw [hz]
  rcases hi with hi|hi
  ·exact h.lt i hi
  ·exact hd.lt hi
theorem dw.era (h:dw w r gN s T Z B G V O) (n:Int) {s':Nat}(hg:w.grownBy w' (some gN)) (pm:aF w' gN s' (fun i=>if i=n then none else (T i).map (fun _=>wp (B i)))):dw w' r gN s' (nR T n) Z B G V O:=by
 obtain ⟨es,cl,hm⟩:=h.map.isMap
 have hkp:∀i,i<w.heap.size→i≠gN→w'.heap[i]? = w.heap[i]? := fun i hi hne=>hg.block i hi (fun e=>hne (Option.some.inj e))
 have hsub:∀k nd,nR T n k=some nd→T k=some nd:=fun k nd e=>by
  by_cases e1:k=n
  ·subst e1;rw [ib] at e;cases e
  ·rw [dR e1] at e;exact e
 have hss:∀k,(nR T n k).isSome=true→(T k).isSome=true:=fun k e=>by
  by_cases e1:k=n
  ·subst e1;rw [ib] at e;cases e
  ·rw [dR e1] at e;exact e
 refine ⟨(hkp r (h.lt _ h.vM) (fun e=>by rw [←e,h.head] at hm;cases hm)).trans h.head,?_,fun k nd e=>(hkp _ (h.lt _ (h.ownB k (hss k (by rw [e];rfl)))) (fun e2=>by rw [←e2,h.node k nd (hsub k nd e)] at hm;cases hm)).trans (h.node k nd (hsub k nd e)),fun k D e=>(h.jS k D (hsub k _ e)).keep (hkp _ (h.jS k D (hsub k _ e)).lt (h.sep k D (hsub k _ e))),fun k b x e=>(h.data k b x (hsub k _ e)).grown hg (fun y hy=>by rw [oM hm] at hy;cases hy),fun k D e=>h.sep k D (hsub k _ e),fun k k' D D' e e'=>h.inj k k' D D' (hsub k _ e) (hsub k' _ e'),fun k k' e e'=>h.I7 k k' (hss k e) (hss k' e'),h.vM,h.ql,fun k e=>h.ownB k (hss k e),fun k D e=>h.lI k D (hsub k _ e),fun k b x i e=>h.Ct k b x i (hsub k _ e),fun i hi=>Nat.lt_of_lt_of_le (h.lt i hi) hg.size⟩
 have e:(fun i=>if i=n then none else (T i).map (fun _=>wp (B i)))=fun k=>(nR T n k).map (fun _=>wp (B k)):=by
  funext k
  by_cases e1:k=n
  ·subst e1;rw [ib,if_pos rfl];rfl
  ·rw [dR e1,if_neg e1]
 rw [e] at pm
 exact pm
end
def di (T:Wd) (s:Nat):Prop:=∃ks:List Int,ks.Nodup∧ks.length=s∧∀x,x∈ks↔(T x).isSome=true
theorem NR {a b:List Int}(ha:a.Nodup) (hb:b.Nodup) (h:∀x,x∈a↔x∈b):a.length=b.length:=((List.perm_ext_iff_of_nodup ha hb).2 h).length_eq
theorem di.one {T:Wd}{s s':Nat}(h:di T s) (h':di T s'):s=s':=by
 obtain ⟨a,ha,rfl,ma⟩:=h
 obtain ⟨b,hb,rfl,mb⟩:=h'
 exact NR ha hb (fun x=>(ma x).trans (mb x).symm)
theorem aF.num {w:World}{g s:Nat}{T:Wd}{f:Int→Nd→Value}(h:aF w g s (fun k=>(T k).map (f k))):di T s:=by
 obtain ⟨D,_,_,hn,hl,hm⟩:=h.data
 exact ⟨_,hn,hl,fun x=>by rw [hm x];cases T x<;>rfl⟩
theorem di.pos {T:Wd}{s:Nat}(h:di T s) (hT:TrOk T):1≤s:=by
 obtain ⟨ks,_,rfl,m⟩:=h
 obtain ⟨C,e⟩:=hT.root
 exact List.length_pos_of_mem ((m 0).2 (by rw [e];rfl))
theorem Hr:∀ {a b:List Int},a.Nodup→a ⊆ b→a.length≤b.length
 | [],_,_,_=>Nat.zero_le _
 |x :: t,b,hn,hs=>by
  rw [List.nodup_cons] at hn
  have hx:x∈b:=hs List.mem_cons_self
  have h1:=Hr (b:=b.erase x) hn.2 (fun y hy=>(List.mem_erase_of_ne (fun e=>hn.1 (by rw [←e];exact hy))).2 (hs (List.mem_cons_of_mem _ hy)))
  have h2:=List.length_erase_of_mem hx
  have h3:=List.length_pos_of_mem hx
  rw [List.length_cons];omega
theorem di.free {T:Wd}{s:Nat}(h:di T s) {k:Nat}(hk:∀i:Nat,i<k→(T i).isSome=true):k≤s:=by
 obtain ⟨ks,hn,rfl,m⟩:=h
 have hsub:((List.range k).map (fun i:Nat=>(i:Int))) ⊆ ks:=fun x hx=>by
  obtain ⟨i,hi,rfl⟩:=List.mem_map.1 hx
  exact (m _).2 (hk i (List.mem_range.1 hi))
 have hnd:((List.range k).map (fun i:Nat=>(i:Int))).Nodup:=List.pairwise_map.2 (List.nodup_range.imp (fun {a b} h e=>h (by omega)))
 have:=Hr hnd hsub
 simpa using this
def PT (w:World) (r:Nat) (T:Wd) (O:Nat→Prop):Prop:=∃gN s B G V,dw w r gN s T (aI T) B G V O
section
variable {w w':World}{r gN s:Nat}{T:Wd}{Z:Int→Nat}{B G:Int→Nat}{V:Int→Value}{O:Nat→Prop}
theorem PT.below (h:PT w r T O) (hb:Below w.heap.size w w'):PT w' r T O:=by
 obtain ⟨gN,s,B,G,V,h⟩:=h
 exact ⟨gN,s,B,G,V,h.below hb⟩
theorem PT.keep (h:PT w r T O) (hk:∀i,O i→w'.heap[i]? = w.heap[i]?) (hs:w.heap.size≤w'.heap.size):PT w' r T O:=by
 obtain ⟨gN,s,B,G,V,h⟩:=h
 exact ⟨gN,s,B,G,V,h.keep hk hs⟩
theorem PT.lt (h:PT w r T O) (i:Nat) (hi:O i):i<w.heap.size:=by
 obtain ⟨gN,s,B,G,V,h⟩:=h
 exact h.lt i hi
theorem dw.num (h:dw w r gN s T Z B G V O):di T s:=h.map.num (f:=fun k _=>wp (B k))
theorem PT.mg (h:PT w r T O) {s:Nat}(hs:di T s):Calls Tryz.prog 197 #[wp r] w fun e w'=>e=.returned (.int .i64 (s:Int))∧w'=w:=by
 obtain ⟨gN,s',B,G,V,h⟩:=h
 rw [hs.one h.num]
 exact h.mg
theorem PT.num (h:PT w r T O):∃s,di T s:=by
 obtain ⟨gN,s,B,G,V,h⟩:=h
 exact ⟨s,h.num⟩
theorem MS (b:Nat) (w:World):(binOp BinOp.eql 202 (wp b) (.pointer none)).run Tryz.prog w=.ok (.bool false) w:=by kernel_rfl
theorem QP (w:World):(binOp BinOp.eql 202 (.pointer none) (.pointer none)).run Tryz.prog w=.ok (.bool true) w:=by kernel_rfl
theorem dw.jo (h:dw w r gN s T Z B G V O) (n:Int) (hw:(Lit.int .i64 n).wf=true) (hz:bF T n≠0) :
 Calls Tryz.prog 242 #[wp r,.int .i64 n] w fun e w'=>e=.returned (.tuple #[.pointer none,eZ (bF T n)])∧w'=w:=by
 have c0:=h.c0
 have hlk:=h.look n hw
 cases hn:T n with
 |none=>
  have e:bF T n=7:=by unfold bF;rw [hn]
  rw [e]
  rw [hn] at hlk
  simp only [Option.isSome_none,Bool.false_eq_true,if_false] at hlk
  have h9:=QP
  go_enter Tryz.func242,Tryz.ntmps242
  go_wp2_with fail
  go_ret2
  exact ⟨rfl,rfl⟩
 |some nd=>
  cases nd with
  |dir C=>
   have e:bF T n=6:=by unfold bF;rw [hn]
   rw [e]
   rw [hn] at hlk
   simp only [Option.isSome_some,if_true] at hlk
   have h9:=MS (B n)
   obtain ⟨n0,_⟩:=h.yN hn
   have LP:=ug n0
   go_enter Tryz.func242,Tryz.ntmps242
   go_wp2_with (go_at_call 298;refine LP.mono ?_;rintro e w' ⟨rfl,hw'⟩;subst w')
   go_ret2
   exact ⟨rfl,rfl⟩
  |file b x=>exact absurd (by unfold bF;rw [hn]) hz
theorem dw.kZ (h:dw w r gN s T Z B G V O) (n:Int) (hw:(Lit.int .i64 n).wf=true) {b:List UInt8}{x:Nat}(hn:T n=some (.file b x)) :
 Calls Tryz.prog 242 #[wp r,.int .i64 n] w fun e w'=>e=.returned (.tuple #[wp (B n),.nilIface])∧w'=w:=by
 have c0:=h.c0
 have hlk:=h.look n hw
 rw [hn] at hlk
 simp only [Option.isSome_some,if_true] at hlk
 have h9:=MS (B n)
 obtain ⟨n0,_⟩:=h.pY hn
 have LP:=wO n0
 go_enter Tryz.func242,Tryz.ntmps242
 go_wp2_with (go_at_call 298;refine LP.mono ?_;rintro e w' ⟨rfl,hw'⟩;subst w')
 go_ret2
 exact ⟨rfl,rfl⟩
theorem Dat.len {v:Value}{b:List UInt8}(h:Dat w v b):∃a c,v=.slice a b.length c:=by
 rcases h with ⟨rfl,rfl⟩|⟨g,c,rfl,_⟩
 ·exact ⟨none,0,rfl⟩
 ·exact ⟨_,c,rfl⟩
end
inductive Tag
 |head
 |mp
 |dX (d:Int)
 |Pe (p:Int)
 |tree
structure QG where
 r:Nat
 gO:Nat
 K:Int→Option Int
 B:Int→Nat
 Q:Int→Nat
 cZ:Nat→Option Tag
def pv (g:QG) (e:En):Value:=if e.kind=1 then .pointer none else wp (g.Q e.pipe)
abbrev jv (g:QG) (e:En) (c:Int):Array Value:=#[.int .i64 e.kind,.int .i64 e.af,.int .i64 c,.int .i64 e.node,.int .i64 e.pos,pv g e]
structure QF (w:World) (f:Nat) (D:DS) (g:QG) (n:Nat):Prop where
 head:w.heap[f]? = some (.cells #[wp g.r,.map (some g.gO)] 209)
 tree:∃O,PT w g.r D.T O∧∀i,O i→g.cZ i=some .tree
 map:aF w g.gO n (fun k=>(g.K k).map (fun d=>wp (g.B d)))
 dX:∀d e,D.E d=some e→∃c,D.R d=some c∧w.heap[g.B d]? = some (.cells (jv g e c) 238)∧g.cZ (g.B d)=some (.dX d)
 key:∀k d,g.K k=some d→(D.E d).isSome=true∧0<k∧k<100000
 has:∀d,(D.E d).isSome=true→∃k,g.K k=some d
 inj:∀k k' d,g.K k=some d→g.K k'=some d→k=k'
 pipe:∀p x,D.P p=some x→Tb w (g.Q p) x.2.1 x.2.2 x.1∧g.cZ (g.Q p)=some (.Pe p)
 tf:g.cZ f=some .head
 tm:g.cZ g.gO=some .mp
 lt:∀i,(g.cZ i).isSome=true→i<w.heap.size
structure dB (w:World) (b:Nat) (g:QG) (M N:Ns):Prop where
 tab:QT w b M
 off:g.cZ b=none
 len:N.length=8
 rel:∀i (h:i<M.length) (h':i<N.length),N[i].2=M[i].2∧((M[i].1=0∧N[i].1=0)∨(0<N[i].1∧g.K M[i].1=some N[i].1))
structure Ext (w:World) (D':DS) (g g':QG):Prop where
 cZ:∀i,i<w.heap.size→g'.cZ i=g.cZ i
 key:∀k d,g.K k=some d→(D'.E d).isSome=true→g'.K k=some d
 r:g'.r=g.r
structure dx (w w':World) (f:Nat) (D':DS) (g:QG) (b:Nat) (N':Ns):Prop where
 ex:∃g' n' M',QF w' f D' g' n'∧dB w' b g' M' N'∧Ext w D' g g'
 wt:Wt (fun i=>(g.cZ i).isSome=true∨i=b) w w'
theorem mZ {κ:Nat→Option Tag} {i j:Nat}{s t:Tag}(hi:κ i=some s) (hj:κ j=some t) (h:s≠t):i≠j:=fun e=>h (by rw [e] at hi;exact Option.some.inj (hi.symm.trans hj))
section
variable {w w' w2:World}{f b n:Nat}{D D':DS}{g g':QG}{M N N':Ns}{d k:Int}{e:En}
theorem Ext.refl (w:World) (D:DS) (g:QG):Ext w D g g:=⟨fun _ _=>rfl,fun _ _ h _=>h,rfl⟩
theorem QF.k0 (h:QF w f D g n):g.K 0=none:=by
 cases e:g.K 0 with
 |none=>rfl
 |some d=>have:=(h.key 0 d e).2.1;omega
theorem QF.keep (h:QF w f D g n) (hk:∀i,(g.cZ i).isSome=true→w'.heap[i]? = w.heap[i]?) (hs:w.heap.size≤w'.heap.size):QF w' f D g n:=by
 have ht:∀ {i t},g.cZ i=some t→w'.heap[i]? = w.heap[i]? := fun {i t} e=>hk i (by rw [e];rfl)
 obtain ⟨O,p,hO⟩:=h.tree
 refine ⟨(ht h.tf).trans h.head,⟨O,p.keep (fun i hi=>ht (hO i hi)) hs,hO⟩,h.map.keep (ht h.tm),fun d e he=>?_,h.key,h.has,h.inj,fun p x hp=>?_,h.tf,h.tm,fun i hi=>Nat.lt_of_lt_of_le (h.lt i hi) hs⟩
 ·obtain ⟨c,h1,h2,h3⟩:=h.dX d e he
  exact ⟨c,h1,(ht h3).trans h2,h3⟩
 ·obtain ⟨h1,h2⟩:=h.pipe p x hp
  exact ⟨h1.keep (ht h2),h2⟩
theorem QF.below (h:QF w f D g n) (hb:Below w.heap.size w w'):QF w' f D g n:=h.keep (fun i hi=>hb.block i (h.lt i hi)) hb.size
theorem dB.keep (h:dB w b g M N) (hk:w'.heap[b]? = w.heap[b]?):dB w' b g M N:=⟨h.tab.keep hk,h.off,h.len,h.rel⟩
theorem dB.below (h:dB w b g M N) (hb:Below w.heap.size w w'):dB w' b g M N:=h.keep (hb.block b h.tab.lt)
theorem dB.other (h:dB w b g M N) (hx:Ext w D' g g') (hk:w'.heap[b]? = w.heap[b]?) (hE:∀i (hi:i<N.length),0<N[i].1→(D'.E N[i].1).isSome=true):dB w' b g' M N:=by
 refine ⟨h.tab.keep hk,(hx.cZ b h.tab.lt).trans h.off,h.len,fun i h1 h2=>?_⟩
 obtain ⟨a,c⟩:=h.rel i h1 h2
 refine ⟨a,?_⟩
 rcases c with c|⟨c1,c2⟩
 ·exact .inl c
 ·exact .inr ⟨c1,hx.key _ _ c2 (hE i h2 c1)⟩
theorem QF.cells (h:QF w f D g n):w.cell? ⟨f,0,none⟩=some (wp g.r)∧w.cell? ⟨f,1,none⟩=some (.map (some g.gO)):=
 ⟨by rw [cell_of_row _ _ _ _ _ _ h.head];rfl,by rw [cell_of_row _ _ _ _ _ _ h.head];rfl⟩
theorem QF.kS (h:QF w f D g n) (he:D.E d=some e) {c:Int}(hc:D.R d=some c):w.cell? ⟨g.B d,0,none⟩=some (.int .i64 e.kind)∧w.cell? ⟨g.B d,1,none⟩=some (.int .i64 e.af)∧w.cell? ⟨g.B d,2,none⟩=some (.int .i64 c)∧w.cell? ⟨g.B d,3,none⟩=some (.int .i64 e.node)∧w.cell? ⟨g.B d,4,none⟩=some (.int .i64 e.pos)∧w.cell? ⟨g.B d,5,none⟩=some (pv g e)∧∀o,w.frozen? ⟨g.B d,o,none⟩=false:=by
 obtain ⟨c',h1,h2,_⟩:=h.dX d e he
 rw [hc] at h1
 obtain rfl:=Option.some.inj h1
 refine ⟨?_,?_,?_,?_,?_,?_,fun o=>by simp [World.frozen?,h2]⟩<;>(rw [cell_of_row _ _ _ _ _ _ h2];rfl)
theorem Nc (w:World):(zeroValue 232).run Tryz.prog w=.ok (.pointer none) w:=by kernel_rfl
def gv (g:QG) (k:Int):Value:=match g.K k with
 |some d=>wp (g.B d)
 |none=>.pointer none
theorem rF (h:g.K k=some d):gv g k=wp (g.B d):=by unfold gv;rw [h]
theorem Bo (h:g.K k=none):gv g k=.pointer none:=by unfold gv;rw [h]
theorem QF.look (h:QF w f D g n) {k:Int}(h0:0≤k) (h1:k<100000):(Instr.lookup 207 (.map (some g.gO)) (.int .i64 k) false).run Tryz.prog w=.ok (gv g k) w:=by
 rw [h.map.look Tryz.underlying207 (Nc _) k (gW h0 (by omega))]
 unfold gv
 cases g.K k<;>rfl
theorem QF.cell (h:QF w f D g n) (he:D.E d=some e) (e':En) (c':Int) (hw:w'.heap[g.B d]? = some (.cells (jv g e' c') 238)) (hg:w.grownBy w' (some (g.B d))) :
 QF w' f { D with E:=fun i=>if i=d then some e' else D.E i,R:=fun i=>if i=d then some c' else D.R i } g n:=by
 obtain ⟨c,h1,h2,h3⟩:=h.dX d e he
 have hk:∀ {i t},g.cZ i=some t→t≠.dX d→w'.heap[i]? = w.heap[i]? := fun {i t} ei ht=>hg.block i (h.lt i (by rw [ei];rfl)) (fun x=>mZ ei h3 ht (Option.some.inj x))
 obtain ⟨O,p,hO⟩:=h.tree
 have hs:∀x,(if x=d then some e' else D.E x).isSome=(D.E x).isSome:=fun x=>by
  by_cases ex:x=d
  ·rw [if_pos ex,ex,he];rfl
  ·rw [if_neg ex]
 refine ⟨(hk h.tf (by simp)).trans h.head,⟨O,p.keep (fun i hi=>hk (hO i hi) (by simp)) hg.size,hO⟩,h.map.keep (hk h.tm (by simp)),fun x ex hx=>?_,fun k x hx=>?_,fun x hx=>h.has x (by rw [←hs x];exact hx),h.inj,fun p x hp=>?_,h.tf,h.tm,fun i hi=>Nat.lt_of_lt_of_le (h.lt i hi) hg.size⟩
 ·have hx':(if x=d then some e' else D.E x)=some ex:=hx
  by_cases e1:x=d
  ·subst e1
   rw [if_pos rfl] at hx'
   obtain rfl:=Option.some.inj hx'
   exact ⟨c',if_pos rfl,hw,h3⟩
  ·rw [if_neg e1] at hx'
   obtain ⟨c1,a1,a2,a3⟩:=h.dX x ex hx'
   exact ⟨c1,(if_neg e1).trans a1,(hk a3 (fun q=>e1 (by injection q))).trans a2,a3⟩
 ·obtain ⟨a,c⟩:=h.key k x hx
  exact ⟨by show (if x=d then some e' else D.E x).isSome=true;rw [hs];exact a,c⟩
 ·obtain ⟨a1,a2⟩:=h.pipe p x hp
  exact ⟨a1.keep (hk a2 (by simp)),a2⟩
theorem QF.Y9 (h:QF w f D g n) (he:D.E d=some e) (c':Int) (hw:w'.heap[g.B d]? = some (.cells (jv g e c') 238)) (hg:w.grownBy w' (some (g.B d))) :
 QF w' f { D with R:=fun i=>if i=d then some c' else D.R i } g n:=by
 have:=h.cell he e c' hw hg
 have hE:(fun i=>if i=d then some e else D.E i)=D.E:=by
  funext i
  by_cases ei:i=d
  ·rw [if_pos ei,ei,he]
  ·rw [if_neg ei]
 rw [hE] at this
 exact this
theorem QF.Me (h:QF w f D g n) (he:D.E d=some e) {c:Int}(hc:D.R d=some c) (e':En) (hw:w'.heap[g.B d]? = some (.cells (jv g e' c) 238)) (hg:w.grownBy w' (some (g.B d))) :
 QF w' f { D with E:=fun i=>if i=d then some e' else D.E i } g n:=by
 have:=h.cell he e' c hw hg
 have hE:(fun i=>if i=d then some c else D.R i)=D.R:=by
  funext i
  by_cases ei:i=d
  ·rw [if_pos ei,ei,hc]
  ·rw [if_neg ei]
 rw [hE] at this
 exact this
theorem QT.put (h:QT w b M) {i:Nat}(hi:i<8) (x:Int×Bool) (hx:0≤x.1∧x.1<100000∧(x.1=0→x.2=false)):QT ((w.setCell ⟨b,i*2,none⟩ (.int .i64 x.1)).setCell ⟨b,i*2+1,none⟩ (.bool x.2)) b (M.set i x):=by
 refine ⟨?_,by rw [List.length_set];exact h.len,fun y hy=>?_⟩
 ·have h1:=aN w b (i*2) (.int .i64 x.1) _ _ _ h.blk
  have h2:=aN _ b (i*2+1) (.bool x.2) _ _ _ h1
  rw [h2,←E5 M i x (by rw [h.len];exact hi),Nat.mul_comm]
  simp
 ·rcases List.mem_or_eq_of_mem_set hy with h1|h1
  ·exact h.pos y h1
  ·rw [h1];exact hx
theorem QT.mark (h:QT w b M) {i:Nat}(hi:i<8) (c:Bool) (hc:(M[i]'(by rw [h.len];exact hi)).1≠0):QT (w.setCell ⟨b,i*2+1,none⟩ (.bool c)) b (M.set i ((M[i]'(by rw [h.len];exact hi)).1,c)):=by
 have aD:i<M.length:=by rw [h.len];exact hi
 refine ⟨?_,by rw [List.length_set];exact h.len,fun y hy=>?_⟩
 ·have h2:=aN w b (i*2+1) (.bool c) _ _ _ h.blk
  rw [h2,←E5 M i (M[i].1,c) aD,Nat.mul_comm]
  have e:(nv M).set (2*i) (.int .i64 M[i].1)=nv M:=by
   obtain ⟨e1,_⟩:=Mq M i aD
   obtain ⟨hl,he⟩:=List.getElem?_eq_some_iff.1 e1
   rw [←he,List.set_getElem_self]
  simp [e]
 ·rcases List.mem_or_eq_of_mem_set hy with h1|h1
  ·exact h.pos y h1
  ·rw [h1];exact ⟨(h.nn aD).1,(h.nn aD).2.1,fun e=>absurd e hc⟩
theorem dB.set (h:dB w b g M N) {i:Nat}(x y:Int×Bool) (hT:QT w' b (M.set i x)) (hxy:y.2=x.2∧((x.1=0∧y.1=0)∨(0<y.1∧g.K x.1=some y.1))):dB w' b g (M.set i x) (N.set i y):=by
 refine ⟨hT,h.off,by rw [List.length_set];exact h.len,fun j h1 h2=>?_⟩
 rw [List.length_set] at h1 h2
 by_cases e:i=j
 ·subst e
  simp only [List.getElem_set_self]
  exact hxy
 ·rw [List.getElem_set_ne e,List.getElem_set_ne e]
  exact h.rel j h1 h2
end
section
variable {w w' w2:World}{f b n:Nat}{D D':DS}{g g':QG}{M N N':Ns}{d k:Int}{e:En}
theorem QF.gone (h:QF w f D g n) (hk:g.K k=some d) {n':Nat}(pm:aF w' g.gO n' (fun i=>if i=k then none else (g.K i).map (fun d=>wp (g.B d)))) (hg:w.grownBy w' (some g.gO)) :
 QF w' f { D with E:=fun i=>if i=d then none else D.E i,R:=fun i=>if i=d then none else D.R i } { g with K:=fun i=>if i=k then none else g.K i } n':=by
 have hh:∀ {i t},g.cZ i=some t→t≠.mp→w'.heap[i]? = w.heap[i]? := fun {i t} ei ht=>hg.block i (h.lt i (by rw [ei];rfl)) (fun x=>mZ ei h.tm ht (Option.some.inj x))
 obtain ⟨O,p,hO⟩:=h.tree
 have hpm:aF w' g.gO n' (fun i=>(if i=k then none else g.K i).map (fun d=>wp (g.B d))):=by
  have e2:(fun i=>(if i=k then none else g.K i).map (fun d=>wp (g.B d)))=fun i=>if i=k then none else (g.K i).map (fun d=>wp (g.B d)):=by
   funext i;split<;>rfl
  rw [e2];exact pm
 refine ⟨(hh h.tf (by simp)).trans h.head,⟨O,p.keep (fun i hi=>hh (hO i hi) (by simp)) hg.size,hO⟩,hpm,fun x ex hx=>?_,fun i x hx=>?_,fun x hx=>?_,fun i j x hi hj=>?_,fun p x hp=>?_,h.tf,h.tm,fun i hi=>Nat.lt_of_lt_of_le (h.lt i hi) hg.size⟩
 ·have hx':(if x=d then none else D.E x)=some ex:=hx
  by_cases e1:x=d
  ·rw [if_pos e1] at hx';cases hx'
  ·rw [if_neg e1] at hx'
   obtain ⟨c1,a1,a2,a3⟩:=h.dX x ex hx'
   exact ⟨c1,(if_neg e1).trans a1,(hh a3 (by simp)).trans a2,a3⟩
 ·have hx':(if i=k then none else g.K i)=some x:=hx
  by_cases e1:i=k
  ·rw [if_pos e1] at hx';cases hx'
  ·rw [if_neg e1] at hx'
   obtain ⟨a,c⟩:=h.key i x hx'
   refine ⟨?_,c⟩
   show (if x=d then none else D.E x).isSome=true
   rw [if_neg (fun e9=>e1 (h.inj i k d (by rw [←e9];exact hx') hk))]
   exact a
 ·have hx':(if x=d then none else D.E x).isSome=true:=hx
  by_cases e1:x=d
  ·rw [if_pos e1] at hx';cases hx'
  ·rw [if_neg e1] at hx'
   obtain ⟨i,hi⟩:=h.has x hx'
   refine ⟨i,?_⟩
   show (if i=k then none else g.K i)=some x
   rw [if_neg (fun e9=>e1 (by rw [e9,hk] at hi;exact (Option.some.inj hi).symm))]
   exact hi
 ·have hi':(if i=k then none else g.K i)=some x:=hi
  have hj':(if j=k then none else g.K j)=some x:=hj
  by_cases e1:i=k
  ·rw [if_pos e1] at hi';cases hi'
  ·by_cases e2:j=k
   ·rw [if_pos e2] at hj';cases hj'
   ·rw [if_neg e1] at hi'
    rw [if_neg e2] at hj'
    exact h.inj i j x hi' hj'
 ·obtain ⟨a1,a2⟩:=h.pipe p x hp
  exact ⟨a1.keep (hh a2 (by simp)),a2⟩
theorem QF.turn (h:QF w f D g n) {O O':Nat→Prop}{T':Wd}(hO:∀i,O i→g.cZ i=some .tree) (p:PT w' g.r T' O') (st:Stp w w' O O') :
 ∃g',QF w' f { D with T:=T' } g' n∧(∀i,i<w.heap.size→g'.cZ i=g.cZ i)∧g'.K=g.K∧g'.r=g.r∧g'.B=g.B:=by
 classical
 have hh:∀ {i t},g.cZ i=some t→t≠.tree→w'.heap[i]? = w.heap[i]? := fun {i t} ei ht=>st.wt.block i (h.lt i (by rw [ei];rfl)) (fun o=>mZ ei (hO i o) ht rfl)
 have hlt:∀ {i t},g.cZ i=some t→(if i<w.heap.size then g.cZ i else if O' i then some Tag.tree else none)=some t:=fun {i t} ei=>by
  rw [if_pos (h.lt i (by rw [ei];rfl))];exact ei
 refine ⟨{ g with cZ:=fun i=>if i<w.heap.size then g.cZ i else if O' i then some .tree else none },⟨(hh h.tf (by simp)).trans h.head,⟨O',p,fun i hi=>?_⟩,h.map.keep (hh h.tm (by simp)),fun x ex hx=>?_,h.key,h.has,h.inj,fun p x hp=>?_,hlt h.tf,hlt h.tm,fun i hi=>?_⟩,fun i hi=>if_pos hi,rfl,rfl,rfl⟩
 ·show (if i<w.heap.size then g.cZ i else if O' i then some Tag.tree else none)=some Tag.tree
  rcases st.own i hi with o|o
  ·exact hlt (hO i o)
  ·rw [if_neg (by omega),if_pos hi]
 ·obtain ⟨c1,a1,a2,a3⟩:=h.dX x ex hx
  exact ⟨c1,a1,(hh a3 (by simp)).trans a2,hlt a3⟩
 ·obtain ⟨a1,a2⟩:=h.pipe p x hp
  exact ⟨a1.keep (hh a2 (by simp)),hlt a2⟩
 ·have hi':(if i<w.heap.size then g.cZ i else if O' i then some Tag.tree else none).isSome=true:=hi
  by_cases e1:i<w.heap.size
  ·exact Nat.lt_of_lt_of_le e1 st.wt.size
  ·rw [if_neg e1] at hi'
   by_cases e2:O' i
   ·exact p.lt i e2
   ·rw [if_neg e2] at hi';cases hi'
theorem QF.piped (h:QF w f D g n) {p:Int}{x:Pi}(hp:D.P p=some x) {x':Pi}(ht:Tb w' (g.Q p) x'.2.1 x'.2.2 x'.1) (hg:w.grownBy w' (some (g.Q p))) :
 QF w' f { D with P:=fun i=>if i=p then some x' else D.P i } g n:=by
 obtain ⟨h1,h2⟩:=h.pipe p x hp
 have hh:∀ {i t},g.cZ i=some t→t≠.Pe p→w'.heap[i]? = w.heap[i]? := fun {i t} ei ht=>hg.block i (h.lt i (by rw [ei];rfl)) (fun x=>mZ ei h2 ht (Option.some.inj x))
 obtain ⟨O,q,hO⟩:=h.tree
 refine ⟨(hh h.tf (by simp)).trans h.head,⟨O,q.keep (fun i hi=>hh (hO i hi) (by simp)) hg.size,hO⟩,h.map.keep (hh h.tm (by simp)),fun y ey hy=>?_,h.key,h.has,h.inj,fun q y hq=>?_,h.tf,h.tm,fun i hi=>Nat.lt_of_lt_of_le (h.lt i hi) hg.size⟩
 ·obtain ⟨c1,a1,a2,a3⟩:=h.dX y ey hy
  exact ⟨c1,a1,(hh a3 (by simp)).trans a2,a3⟩
 ·have hq':(if q=p then some x' else D.P q)=some y:=hq
  by_cases e1:q=p
  ·subst e1
   rw [if_pos rfl] at hq'
   obtain rfl:=Option.some.inj hq'
   exact ⟨ht,h2⟩
  ·rw [if_neg e1] at hq'
   obtain ⟨a1,a2⟩:=h.pipe q y hq'
   exact ⟨a1.keep (hh a2 (fun z=>e1 (by injection z))),a2⟩
theorem QF.Rc (h:QF w f D g n) {q:Nat}{p:Int}(hq:w.heap.size≤q) (hq':q<w'.heap.size) (hb:Below w.heap.size w w') (hp:D.P p=none) (hE:∀d e,D.E d=some e→e.pipe≠p∨e.kind=1) {x:Pi}(ht:Tb w' q x.2.1 x.2.2 x.1) (z:Int) :
 ∃g',QF w' f { D with P:=fun i=>if i=p then some x else D.P i,nx:=z } g' n∧(∀i,i<w.heap.size→g'.cZ i=g.cZ i)∧g'.K=g.K∧g'.r=g.r∧g'.Q p=q:=by
 have h':=h.below hb
 have hlt:∀ {i t},g.cZ i=some t→(if i=q then some (Tag.Pe p) else g.cZ i)=some t:=fun {i t} ei=>by
  have:=h.lt i (by rw [ei];rfl)
  rw [if_neg (by omega)];exact ei
 obtain ⟨O,o1,hO⟩:=h'.tree
 refine ⟨{ g with Q:=fun i=>if i=p then q else g.Q i,cZ:=fun i=>if i=q then some (.Pe p) else g.cZ i },⟨h'.head,⟨O,o1,fun i hi=>hlt (hO i hi)⟩,h'.map,fun y ey hy=>?_,h.key,h.has,h.inj,fun i y hi=>?_,hlt h.tf,hlt h.tm,fun i hi=>?_⟩,fun i hi=>if_neg (by omega),rfl,rfl,if_pos rfl⟩
 ·obtain ⟨c1,a1,a2,a3⟩:=h'.dX y ey hy
  refine ⟨c1,a1,?_,hlt a3⟩
  have hpv:pv { g with Q:=fun i=>if i=p then q else g.Q i,cZ:=fun i=>if i=q then some (.Pe p) else g.cZ i } ey=pv g ey:=by
   unfold pv
   rcases hE y ey hy with e1|e1
   ·simp only [if_neg e1]
   ·rw [if_pos e1,if_pos e1]
  show w'.heap[g.B y]? = _
  rw [a2,jv,jv,hpv]
 ·have hi':(if i=p then some x else D.P i)=some y:=hi
  by_cases e1:i=p
  ·subst e1
   rw [if_pos rfl] at hi'
   obtain rfl:=Option.some.inj hi'
   have eq:(if i=i then q else g.Q i)=q:=if_pos rfl
   show Tb w' (if i=i then q else g.Q i) x.2.1 x.2.2 x.1∧(if (if i=i then q else g.Q i)=q then some (Tag.Pe i) else g.cZ (if i=i then q else g.Q i))=some (Tag.Pe i)
   rw [eq,if_pos rfl]
   exact ⟨ht,rfl⟩
  ·rw [if_neg e1] at hi'
   obtain ⟨a1,a2⟩:=h'.pipe i y hi'
   show Tb w' (if i=p then q else g.Q i) y.2.1 y.2.2 y.1∧(if (if i=p then q else g.Q i)=q then some (Tag.Pe p) else g.cZ (if i=p then q else g.Q i))=some (Tag.Pe i)
   rw [if_neg e1]
   exact ⟨a1,hlt a2⟩
 ·have hi':(if i=q then some (Tag.Pe p) else g.cZ i).isSome=true:=hi
  by_cases e1:i=q
  ·omega
  ·rw [if_neg e1] at hi'
   exact h'.lt i hi'
def EO (D:DS) (e:En):DS:={ D with E:=fun i=>if i=D.nx+1 then some e else D.E i,R:=fun i=>if i=D.nx+1 then some 0 else D.R i,nx:=D.nx+1 }
theorem QF.UJ (h:QF w f D g n) {q:Nat}(hq:w.heap.size≤q) (hb:Below w.heap.size w w') (hE:D.E (D.nx+1)=none) (hk:g.K k=none) (hk0:0<k) (hk1:k<100000) (hw:w'.heap[q]? = some (.cells (jv g e 0) 238)) (pm:aF w2 g.gO (n+1) (fun i=>if i=k then some (wp q) else (g.K i).map (fun d=>wp (g.B d)))) (hg:w'.grownBy w2 (some g.gO)) :
 ∃g',QF w2 f (EO D e) g' (n+1)∧(∀i,i<w.heap.size→g'.cZ i=g.cZ i)∧(g'.K=fun i=>if i=k then some (D.nx+1) else g.K i)∧g'.r=g.r∧g'.B (D.nx+1)=q∧g'.gO=g.gO∧g'.Q=g.Q:=by
 have h':=h.below hb
 have hql:q<w'.heap.size:=(Array.getElem?_eq_some_iff.1 hw).1
 have hlt:∀ {i t},g.cZ i=some t→(if i=q then some (Tag.dX (D.nx+1)) else g.cZ i)=some t:=fun {i t} ei=>by
  have:=h.lt i (by rw [ei];rfl)
  rw [if_neg (by omega)];exact ei
 have hh:∀ {i t},g.cZ i=some t→t≠.mp→w2.heap[i]? = w'.heap[i]? := fun {i t} ei ht=>hg.block i (h'.lt i (by rw [ei];rfl)) (fun x=>mZ ei h.tm ht (Option.some.inj x))
 have hqm:q≠g.gO:=fun e=>by have:=h.lt g.gO (by rw [h.tm];rfl);omega
 obtain ⟨O,o1,hO⟩:=h'.tree
 have XY:∀i x,g.K i=some x→x≠D.nx+1:=fun i x hx e=>by
  have:=(h.key i x hx).1
  rw [e,hE] at this;cases this
 have hpm:aF w2 g.gO (n+1) (fun i=>(if i=k then some (D.nx+1) else g.K i).map (fun d=>wp (if d=D.nx+1 then q else g.B d))):=by
  have e2:(fun i=>(if i=k then some (D.nx+1) else g.K i).map (fun d=>wp (if d=D.nx+1 then q else g.B d)))=fun i=>if i=k then some (wp q) else (g.K i).map (fun d=>wp (g.B d)):=by
   funext i
   by_cases ei:i=k
   ·rw [if_pos ei,if_pos ei];simp
   ·rw [if_neg ei,if_neg ei]
    cases hK:g.K i with
    |none=>rfl
    |some x=>simp [XY i x hK]
  rw [e2];exact pm
 refine ⟨{ g with K:=fun i=>if i=k then some (D.nx+1) else g.K i,B:=fun d=>if d=D.nx+1 then q else g.B d,cZ:=fun i=>if i=q then some (.dX (D.nx+1)) else g.cZ i },⟨(hh h.tf (by simp)).trans h'.head,⟨O,o1.keep (fun i hi=>hh (hO i hi) (by simp)) hg.size,fun i hi=>hlt (hO i hi)⟩,hpm,fun y ey hy=>?_,fun i y hi=>?_,fun y hy=>?_,fun i j y hi hj=>?_,fun p x hp=>?_,hlt h.tf,hlt h.tm,fun i hi=>?_⟩,fun i hi=>if_neg (by omega),rfl,rfl,if_pos rfl,rfl,rfl⟩
 ·have hy':(if y=D.nx+1 then some e else D.E y)=some ey:=hy
  by_cases e1:y=D.nx+1
  ·rw [if_pos e1] at hy'
   obtain rfl:=Option.some.inj hy'
   refine ⟨0,if_pos e1,?_,?_⟩
   ·show w2.heap[if y=D.nx+1 then q else g.B y]? = _
    rw [if_pos e1,hg.block q hql (fun x=>hqm (Option.some.inj x)),hw]
    rfl
   ·show (if (if y=D.nx+1 then q else g.B y)=q then some (Tag.dX (D.nx+1)) else g.cZ (if y=D.nx+1 then q else g.B y))=some (Tag.dX y)
    rw [if_pos e1,if_pos rfl,e1]
  ·rw [if_neg e1] at hy'
   obtain ⟨c1,a1,a2,a3⟩:=h'.dX y ey hy'
   refine ⟨c1,(if_neg e1).trans a1,?_,?_⟩
   ·show w2.heap[if y=D.nx+1 then q else g.B y]? = _
    rw [if_neg e1,hh a3 (by simp),a2]
    rfl
   ·show (if (if y=D.nx+1 then q else g.B y)=q then some (Tag.dX (D.nx+1)) else g.cZ (if y=D.nx+1 then q else g.B y))=some (Tag.dX y)
    rw [if_neg e1]
    exact hlt a3
 ·have hi':(if i=k then some (D.nx+1) else g.K i)=some y:=hi
  show (if y=D.nx+1 then some e else D.E y).isSome=true∧0<i∧i<100000
  by_cases e1:i=k
  ·rw [if_pos e1] at hi'
   obtain rfl:=Option.some.inj hi'
   rw [if_pos rfl,e1]
   exact ⟨rfl,hk0,hk1⟩
  ·rw [if_neg e1] at hi'
   rw [if_neg (XY i y hi')]
   exact h.key i y hi'
 ·have hy':(if y=D.nx+1 then some e else D.E y).isSome=true:=hy
  by_cases e1:y=D.nx+1
  ·exact ⟨k,by show (if k=k then some (D.nx+1) else g.K k)=some y;rw [if_pos rfl,e1]⟩
  ·rw [if_neg e1] at hy'
   obtain ⟨i,hi⟩:=h.has y hy'
   refine ⟨i,?_⟩
   show (if i=k then some (D.nx+1) else g.K i)=some y
   rw [if_neg (fun e9=>by rw [e9,hk] at hi;cases hi)]
   exact hi
 ·have hi':(if i=k then some (D.nx+1) else g.K i)=some y:=hi
  have hj':(if j=k then some (D.nx+1) else g.K j)=some y:=hj
  by_cases e1:i=k
  ·by_cases e2:j=k
   ·rw [e1,e2]
   ·rw [if_pos e1] at hi'
    rw [if_neg e2] at hj'
    exact absurd (Option.some.inj hi').symm (XY j y hj')
  ·by_cases e2:j=k
   ·rw [if_neg e1] at hi'
    rw [if_pos e2] at hj'
    exact absurd (Option.some.inj hj').symm (XY i y hi')
   ·rw [if_neg e1] at hi'
    rw [if_neg e2] at hj'
    exact h.inj i j y hi' hj'
 ·obtain ⟨a1,a2⟩:=h'.pipe p x hp
  exact ⟨a1.keep (hh a2 (by simp)),hlt a2⟩
 ·have hi':(if i=q then some (Tag.dX (D.nx+1)) else g.cZ i).isSome=true:=hi
  by_cases e1:i=q
  ·have:=hg.size;omega
  ·rw [if_neg e1] at hi'
   exact Nat.lt_of_lt_of_le (h'.lt i hi') hg.size
end
theorem DY:∀ {M N:Ns},M.length=N.length→(∀i (h:i<M.length) (h':i<N.length),(0<M[i].1↔0<N[i].1)∧(M[i].1=0↔N[i].1=0))→aj M=aj N∧au M=au N
 | [],[],_,_=>⟨rfl,rfl⟩
 | [],_ :: _,h,_=>by simp at h
 |_ :: _,[],h,_=>by simp at h
 |x :: M,y :: N,h,k=>by
  obtain ⟨h1,h2⟩:=DY (M:=M) (N:=N) (by simpa using h) (fun i hi hi'=>k (i+1) (by simpa using hi) (by simpa using hi'))
  obtain ⟨k1,k2⟩:=k 0 (by simp) (by simp)
  simp only [List.getElem_cons_zero] at k1 k2
  constructor
  ·unfold aj at h1 ⊢
   by_cases e:0<x.1
   ·rw [List.filter_cons_of_pos (by simpa using e),List.filter_cons_of_pos (by simpa using k1.1 e),List.length_cons,List.length_cons,h1]
   ·rw [List.filter_cons_of_neg (by simpa using e),List.filter_cons_of_neg (by simpa using fun z=>e (k1.2 z)),h1]
  ·rw [au,au,h2]
   by_cases e:x.1=0
   ·rw [if_pos e,if_pos (k2.1 e)]
   ·rw [if_neg e,if_neg (fun z=>e (k2.2 z))]
section
variable {w w' w2:World}{f b n:Nat}{D D':DS}{g g':QG}{M N N':Ns}{d k:Int}{e:En}
theorem dB.pos (t:dB w b g M N) (h:QF w f D g n) (i:Nat) (h1:i<M.length) (h2:i<N.length):(0<M[i].1↔0<N[i].1)∧(M[i].1=0↔N[i].1=0):=by
 rcases (t.rel i h1 h2).2 with ⟨a,c⟩|⟨a,c⟩
 ·rw [a,c];simp
 ·have:=(h.key _ _ c).2.1
  omega
theorem dB.Ze (t:dB w b g M N) (i:Nat) (hi:i<N.length):0≤N[i].1:=by
 rcases (t.rel i (by rw [t.tab.len];have:=t.len;omega) hi).2 with ⟨_,c⟩|⟨c,_⟩
 ·omega
 ·omega
theorem dB.eqs (t:dB w b g M N) (h:QF w f D g n):aj M=aj N∧au M=au N:=DY (t.tab.len.trans t.len.symm) (t.pos h)
theorem dB.Tw (t:dB w b g M N) (h:QF w f D g n) (x:Int):aG M x=aG N x:=by
 by_cases hx:0≤x∧x≤7
 ·obtain ⟨i,rfl⟩:∃i:Nat,x=i:=⟨x.toNat,by omega⟩
  have h1:i<M.length:=by have:=t.tab.len;omega
  have h2:i<N.length:=by have:=t.len;omega
  have hp:=(t.pos h i h1 h2).1
  unfold aG
  rw [getD_in h1,getD_in h2]
  by_cases e:0<M[i].1
  ·simp [e,hp.1 e]
  ·simp [e,show ¬0<N[i].1 from fun z=>e (hp.2 z)]
 ·unfold aG
  have hb:(decide (0≤x) && decide (x≤7))=false:=by
   simp only [Bool.and_eq_false_iff,decide_eq_false_iff_not];omega
  rw [hb];rfl
theorem dB.keyOf (t:dB w b g M N) {i:Nat}(h1:i<M.length) (h2:i<N.length) (h0:0<N[i].1):g.K M[i].1=some N[i].1:=by
 rcases (t.rel i h1 h2).2 with ⟨a,c⟩|⟨a,c⟩
 ·omega
 ·exact c
theorem dB.vk (t:dB w b g M N) (h:QF w f D g n):Calls Tryz.prog 118 #[wp b] w fun e w'=>e=.returned (.int .i64 (aj N:Int))∧Below w.heap.size w w':=by
 rw [← (t.eqs h).1];exact t.tab.vk
theorem dB.Fe (t:dB w b g M N) (h:QF w f D g n) (x:Int):Calls Tryz.prog 206 #[wp f,wp b,.int .i64 x] w fun e w'=>e=.returned (.bool (aG N x))∧Below w.heap.size w w':=by
 rw [←t.Tw h x];exact t.tab.Fe f x
theorem qB (b:Nat) (w:World):(binOp BinOp.eql 96 (wp b) (.pointer none)).run Tryz.prog w=.ok (.bool false) w:=by kernel_rfl
theorem AR (b:Nat) (w:World):(binOp BinOp.eql 232 (wp b) (.pointer none)).run Tryz.prog w=.ok (.bool false) w:=by kernel_rfl
theorem Bw (w:World):(binOp BinOp.eql 232 (.pointer none) (.pointer none)).run Tryz.prog w=.ok (.bool true) w:=by kernel_rfl
theorem J3 (X:Int) (Y:Bool) (w:World):(Instr.field 213 (.agg #[.int .i64 X,.bool Y]) 0).run Tryz.prog w=.ok (.int .i64 X) w:=by kernel_rfl
theorem wL (X:Int) (Y:Bool) (w:World):(Instr.field 213 (.agg #[.int .i64 X,.bool Y]) 1).run Tryz.prog w=.ok (.bool Y) w:=by kernel_rfl
theorem QF.DC (h:QF w f D g n) (t:QT w b M) (x:Int) (v:Value) (hv:gv g (EE M x).1=v) (hat:0≤(EE M x).1∧(EE M x).1<100000) (z:Bool) (hz:(∃q,v=wp q∧z=false)∨(v=.pointer none∧z=true)) :
 Calls Tryz.prog 141 #[wp f,wp b,.int .i64 x] w fun e w'=>e=.returned (.tuple (if z=true then #[.pointer none,eZ 7] else #[v,.nilIface]))∧Below w.heap.size w w':=by
 have hA:∀V,Below w.heap.size w V→Calls Tryz.prog 217 #[wp b,.int .i64 x] V fun e w'=>e=.returned (Ym (EE M x))∧Below w.heap.size w w'∧w'.cell? ⟨f,1,none⟩=some (.map (some g.gO))∧(Instr.lookup 207 (.map (some g.gO)) (.int .i64 (EE M x).1) false).run Tryz.prog w'=.ok v w':=fun V hV=>by
  refine ((t.below hV).uB x).mono ?_
  rintro e w1 ⟨rfl,b1⟩
  have b2:=hV.trans (b1.mono hV.size)
  refine ⟨rfl,b2,(h.below b2).cells.2,?_⟩
  rw [(h.below b2).look hat.1 hat.2,hv]
 have c1:=h.cells.2
 have h9:=qB f
 generalize EE M x=y at *
 obtain ⟨X,Y⟩:=y
 simp only [Ym] at hA
 have hfl:=J3 X Y
 have HZ:Aside ((∃q,v=wp q∧z=false)∨(v=.pointer none∧z=true)):=hz
 have hen:=AR
 have hel:=Bw
 clear h t hv hat hz
 go_enter Tryz.func141,Tryz.ntmps141
 go_upto_region 3 with fail
 go_region_held3 (fun w'=>w'.cell? ⟨f,1,none⟩=some (.map (some g.gO))) (first|exact c1|exact c2) (first
  |(go_at_call 217;refine (hA _ ⟨by rfl,by rfl,by rfl,by exact Nat.le_refl _,fun _ _=>by rfl⟩).mono ?_;rintro e w2 ⟨rfl,b2,c2,hlk⟩))
 all_goals
  rcases HZ.out with ⟨q,rfl,rfl⟩|⟨rfl,rfl⟩
  ·clear HZ
   go_wp2_with fail
   go_ret2
   exact ⟨rfl,b2⟩
  ·clear HZ
   go_wp2_with fail
   go_ret2
   exact ⟨rfl,b2⟩
theorem QF.aB (h:QF w f D g n) (t:dB w b g M N) {i:Nat}(hi:i<8) (aD:i<N.length) (h0:0<N[i].1) :
 Calls Tryz.prog 141 #[wp f,wp b,.int .i64 (i:Int)] w fun e w'=>e=.returned (.tuple #[wp (g.B N[i].1),.nilIface])∧Below w.heap.size w w':=by
 have hM:i<M.length:=by have:=t.tab.len;omega
 have hk:=t.keyOf hM aD h0
 have hat:=wB t.tab.len hi
 exact h.DC t.tab i _ (by rw [hat,rF hk]) (by rw [hat];exact ⟨(t.tab.nn hM).1,(t.tab.nn hM).2.1⟩) false (.inl ⟨_,rfl,rfl⟩)
theorem QF.aS (h:QF w f D g n) (t:dB w b g M N) (x:Int) (hx:aG N x=false) :
 Calls Tryz.prog 141 #[wp f,wp b,.int .i64 x] w fun e w'=>e=.returned (.tuple #[.pointer none,eZ 7])∧Below w.heap.size w w':=by
 have h1:=WT t.tab.len (fun x hx=>(t.tab.pos x hx).1) x
 rw [t.Tw h x,hx] at h1
 have h2:(EE M x).1=0:=by
  by_cases e:(EE M x).1=0
  ·exact e
  ·simp [e] at h1
 exact h.DC t.tab x _ (by rw [h2,Bo h.k0]) (by rw [h2];omega) true (.inr ⟨rfl,rfl⟩)
end
section
variable {w w' w2:World}{f b n:Nat}{D D':DS}{g g':QG}{M N N':Ns}{d k:Int}{e:En}
theorem zH (w:World) (X:Int) (Y:Bool):Calls Tryz.prog 324 #[.agg #[.int .i64 X,.bool Y]] w fun e w'=>e=.returned (.bool (X == 0))∧Below w.heap.size w w':=by
 have bA:Below w.heap.size w (w.alloc (.cells #[.int .i64 X,.bool Y] 213)):=(Below.refl _ w).alloc (Nat.le_refl _) _
 obtain ⟨c0,c1⟩:=wM w (.int .i64 X) (.bool Y) 213
 go_enter Tryz.func324,Tryz.ntmps324
 go_wp2_with (go_at_call 218;refine (jO _ X Y).mono ?_;rintro e w2 ⟨rfl,b2⟩)
 go_ret
 exact ⟨rfl,bA.trans (b2.mono bA.size)⟩
theorem QT.wP (h:QT w b M):Calls Tryz.prog 323 #[.slice (some ⟨b,0,none⟩) 8 8,.func (.func 324) #[] #[]] w fun e w'=>e=.returned (.int .i64 (au M))∧Below w.heap.size w w':=by
 have HL:Aside (M.length=8):=h.len
 go_enter Tryz.func323,Tryz.ntmps323
 go_wp2_with fail
 go_loopg [5,8] 8 (fun g _ s8 wx=>∃i:Nat,Aside (i+g=8)∧s8=.int .i64 (i:Int)∧Aside (∀j (hj:j<M.length),j<i→M[j].1≠0)∧Below w.heap.size w wx)
 case atStart=>exact ⟨0,rfl,rfl,(fun j _ hj=>by omega),Below.refl _ _⟩
 case round=>
  obtain ⟨i,HI,rfl,HN,hb⟩:=hrel
  have hi9:i≤8:=by have:=HI.out;omega
  have hi9':(i:Int)≤8:=by omega
  by_cases hlt:(i:Int)<8
  ·have aD:i<M.length:=by have:=HL.out;omega
   obtain ⟨c0,c1⟩:=(h.below hb).at (i:=i) (by omega)
   have HX0:Aside (M[i].1=0→au M=i):=fun e=>Dq aD (fun j hj=>HN.out j (by omega) hj) e
   have Ya:Aside (M[i].1≠0→∀j (hj:j<M.length),j<i+1→M[j].1≠0):=fun e j hj hji=>by
    by_cases e2:j=i
    ·subst e2;exact e
    ·exact HN.out j hj (by omega)
   generalize M[i].1=X at *
   generalize M[i].2=Y at *
   have hsz:=hb.size
   clear h aD
   by_cases hX:X=0
   ·have E9:Aside (au M=i):=HX0.out hX
    subst hX
    go_wp2_with (go_at_call 324;refine (zH _ 0 Y).mono ?_;rintro e w2 ⟨rfl,b2⟩)
    go_ret
    exact ⟨by rw [E9.out];rfl,hb.trans (b2.mono hsz)⟩
   ·have XO:(X == 0)=false:=by simpa using hX
    clear hX
    go_wp2_with (go_at_call 324;refine (zH _ X Y).mono ?_;rintro e w2 ⟨rfl,b2⟩)
    go_roundg (7-i)
    case measure=>have:=HI.out;omega
    case rel=>exact ⟨i+1,(show i+1+(7-i)=8 by omega),by rfl,Ya.out (by simpa using XO),hb.trans (b2.mono hsz)⟩
  ·have e9:au M=-1:=xQ (fun x hx=>by
    obtain ⟨j,hj,rfl⟩:=List.getElem_of_mem hx
    exact HN.out j hj (by have:=HL.out;omega))
   have E9:Aside (au M=-1):=e9
   clear e9
   go_wp2_with fail
   go_ret
   exact ⟨by rw [E9.out];rfl,hb⟩
theorem QT.j6 (h:QT w b M):Calls Tryz.prog 278 #[wp b] w fun e w'=>e=.returned (.tuple #[.int .i64 (au M),.bool (decide (0≤au M))])∧Below w.heap.size w w':=by
 have hI:=h.wP
 generalize au M=L at *
 clear h
 go_enter Tryz.func278,Tryz.ntmps278
 go_wp2_with (go_at_call 323;refine hI.mono ?_;rintro e w2 ⟨rfl,b2⟩)
 go_ret2
 exact ⟨rfl,b2⟩
theorem dB.j6 (t:dB w b g M N) (h:QF w f D g n):Calls Tryz.prog 278 #[wp b] w fun e w'=>e=.returned (.tuple #[.int .i64 (au N),.bool (decide (0≤au N))])∧Below w.heap.size w w':=by
 rw [← (t.eqs h).2];exact t.tab.j6
theorem QF.o8 (h:QF w f D g n):Calls Tryz.prog 65 #[wp f] w fun e w'=>e=.returned (.int .i64 (n:Int))∧w'=w:=by
 have c1:=h.cells.2
 have h9:=qB f
 have hl:=h.map
 go_enter Tryz.func65,Tryz.ntmps65
 go_wp2_with (refine fT rfl _ 207 rfl 232 Tryz.underlying207 g.gO _ _ rfl hl ?_)
 go_ret
 exact ⟨rfl,rfl⟩
theorem UO (g:Nat) (w:World):(binOp BinOp.eql 207 (.map (some g)) (.map none)).run Tryz.prog w=.ok (.bool false) w:=by kernel_rfl
theorem QF.Hz (h:QF w f D g n) (t:dB w b g M N) (x:Nat) (hx:x≤2) (hn:n<1000):Calls Tryz.prog 135 #[wp f,wp b,.int .i64 (x:Int)] w fun e w'=>e=.returned (.bool (decide (aj N+x≤8) && decide (n+x≤40)))∧Below w.heap.size w w':=by
 have hU:=t.vk h
 have Ph:=vo N
 rw [t.len] at Ph
 have c1:=h.cells.2
 have h8:=MP b
 have h9:=qB f
 have h7:=UO g.gO
 have hO:∀V,Below w.heap.size w V→Calls Tryz.prog 65 #[wp f] V fun e w'=>e=.returned (.int .i64 (n:Int))∧w'=V:=fun V hV=>(h.below hV).o8
 generalize aj N=U at *
 have hU8:(U:Int)≤8:=by omega
 have hx8:(x:Int)≤2:=by omega
 have Yu:(n:Int)<1000:=by omega
 by_cases hu:U+x≤8
 ·have e1:decide (U+x≤8)=true:=by simpa using hu
  have e2:(U:Int)+(x:Int)≤8:=by omega
  have E3:Aside (decide ((n:Int)+(x:Int)≤40)=decide (n+x≤40)):=by
   show decide ((n:Int)+(x:Int)≤40)=decide (n+x≤40)
   by_cases hh:n+x≤40
   ·rw [decide_eq_true hh,decide_eq_true (by omega)]
   ·rw [decide_eq_false hh,decide_eq_false (by omega)]
  rw [e1,Bool.true_and]
  rw [←E3.out]
  clear h t Ph hu e1 E3
  go_enter Tryz.func135,Tryz.ntmps135
  go_wp2_with (first
   |(go_at_call 118;refine hU.mono ?_;rintro e w1 ⟨rfl,b1⟩)
   |(go_at_call 65;refine (hO _ b1).mono ?_;rintro e w2 ⟨rfl,hw2⟩;subst w2))
  go_ret
  exact ⟨rfl,b1⟩
 ·have e1:decide (U+x≤8)=false:=by simpa using hu
  have e2:¬((U:Int)+(x:Int)≤8):=by omega
  rw [e1,Bool.false_and]
  clear h t Ph hu e1
  go_enter Tryz.func135,Tryz.ntmps135
  go_wp2_with (go_at_call 118;refine hU.mono ?_;rintro e w1 ⟨rfl,b1⟩)
  go_ret
  exact ⟨rfl,b1⟩
theorem Dw (w:World) (x:Int):Calls Tryz.prog 275 #[.int .i64 x] w fun e w'=>e=.returned (.bool (decide (1≤x) && decide (x≤3)))∧w'=w:=by
 go_enter Tryz.func275,Tryz.ntmps275
 by_cases h1:1≤x
 ·go_wp2_with fail
  go_ret
  exact ⟨by simp [h1],rfl⟩
 ·go_wp2_with fail
  go_ret
  exact ⟨by simp;omega,rfl⟩
theorem QF.pK (h:QF w f D g n) (he:D.E d=some e):Calls Tryz.prog 145 #[wp (g.B d)] w fun x w'=>x=.returned (.bool (e.kind == 1))∧w'=w:=by
 obtain ⟨c,h1,_⟩:=h.dX d e he
 obtain ⟨c0,_⟩:=h.kS he h1
 go_enter Tryz.func145,Tryz.ntmps145
 go_wp2_with fail
 go_ret
 exact ⟨rfl,rfl⟩
end
section
variable {w w':World}{r gN s:Nat}{T:Wd}{Z:Int→Nat}{B G:Int→Nat}{V:Int→Value}{O:Nat→Prop}
theorem Stp.grown {i:Nat}(hg:w.grownBy w' (some i)) (hi:O i):Stp w w' O O:=⟨.grown hg hi,fun _ h=>.inl h⟩
theorem Stp.cell {b o:Nat}(v:Value) (hi:O b):Stp w (w.setCell ⟨b,o,none⟩ v) O O:=
 .grown (i:=b) ⟨rfl,rfl,rfl,by simp [World.setCell],fun i _ hne=>Below.heap_setCell _ _ _ _ (fun e=>hne (by rw [e]))⟩ hi
theorem dw.GL (h:dw w r gN s T Z B G V O) {k:Int}{nd:Nd}(e:T k=some nd):w.cell? ⟨B k,2,none⟩=some (.int .i64 (Z k:Int))∧w.cell? ⟨B k,3,none⟩=some (.int .i64 (dF nd:Int)):=by
 cases nd with
 |dir C=>obtain ⟨_,_,h2,h3⟩:=h.yN e;exact ⟨h2,h3⟩
 |file b x=>obtain ⟨_,_,h2,h3⟩:=h.pY e;exact ⟨h2,h3⟩
theorem dw.Ef (h:dw w r gN s T Z B G V O) (n:Int) (hw:(Lit.int .i64 n).wf=true) {nd:Nd}(hn:T n=some nd) (hz:¬(Z n=0∧dF nd=0)) :
 Calls Tryz.prog 312 #[wp r,.int .i64 n] w fun e w'=>(∃v,e=.returned v)∧w'=w:=by
 have c0:=h.c0
 have hlk:=h.look n hw
 rw [hn] at hlk
 simp only [Option.isSome_some,if_true] at hlk
 obtain ⟨s2,s3⟩:=h.GL hn
 by_cases e1:Z n=0
 ·have e2:dF nd≠0:=fun e=>hz ⟨e1,e⟩
  have e3:((dF nd:Int) == 0)=false:=by simp;omega
  rw [e1] at s2
  generalize dF nd=H at *
  clear hn hz
  go_enter Tryz.func312,Tryz.ntmps312
  go_wp2_with fail
  go_end0
  exact ⟨⟨_,rfl⟩,rfl⟩
 ·have e3:((Z n:Int) == 0)=false:=by simp;omega
  generalize dF nd=H at *
  generalize Z n=z at *
  clear hn hz
  go_enter Tryz.func312,Tryz.ntmps312
  go_wp2_with fail
  go_end0
  exact ⟨⟨_,rfl⟩,rfl⟩
theorem dw.JI (h:dw w r gN s T Z B G V O) (n:Int) (hw:(Lit.int .i64 n).wf=true) {nd:Nd}(hn:T n=some nd) (hz:Z n=0) (hh:dF nd=0) :
 Calls Tryz.prog 312 #[wp r,.int .i64 n] w fun e w'=>(∃v,e=.returned v)∧dw w' r gN (s-1) (nR T n) Z B G V O∧Stp w w' O O:=by
 have c0:=h.c0
 have hlk:=h.look n hw
 rw [hn] at hlk
 simp only [Option.isSome_some,if_true] at hlk
 obtain ⟨s2,s3⟩:=h.GL hn
 rw [hz] at s2
 rw [hh] at s3
 have hmap:=h.map
 have hM:((T n).map (fun _=>wp (B n))).isSome=true:=by rw [hn];rfl
 go_enter Tryz.func312,Tryz.ntmps312
 go_wp2_with (refine lh rfl _ _ 204 rfl 202 Tryz.underlying204 gN _ _ rfl hmap n rfl hw ?_;intro w1 pm g1;rw [if_pos hM] at pm)
 go_end0
 exact ⟨⟨_,rfl⟩,h.era n g1 pm,.grown g1 h.ql⟩
theorem bq.EM (hT:bq T) {n:Int}{b b':List UInt8}{x x':Nat}(hn:T n=some (.file b x)) (hb:b'.length≤256) (hx:x'≤1000) (hx':x'≠0∨aI T n≠0):bq (bN T n (.file b' x')):=
 { toTrOk:=hT.toTrOk.EM hn hb hx
   nr:=by rw [jq hn];exact hT.nr
   lv:=fun k nd e=>by
    rw [jq hn]
    by_cases e1:k=n
    ·subst e1;rw [ak] at e;cases e
     rcases hx' with e2|e2
     ·exact .inr (.inr e2)
     ·exact .inr (.inl e2)
    ·rw [ag _ e1] at e;exact hT.lv k nd e }
theorem PT.Ry (h:PT w r T O) (hT:bq T) (n:Int) (hw:(Lit.int .i64 n).wf=true) (hhx:∀b x,T n=some (.file b x)→x+1≤1000) :
 Calls Tryz.prog 277 #[wp r,.int .i64 n] w fun e w'=>e=.returned (aH (dU T n 1))∧PT w' r (bP T n 1) O∧Stp w w' O O:=by
 obtain ⟨gN,s,B,G,V,h⟩:=h
 by_cases hz:bF T n=0
 ·obtain ⟨b,x,hn⟩:=kG hz
  have hF:=h.kZ n hw hn
  have hx:=hhx b x hn
  have hb:=(hT.small n b x hn).1
  obtain ⟨_,_,_,n3⟩:=h.pY hn
  have nf:=h.pq hn 3
  have hE:dU T n 1=0:=by unfold dU;rw [hn];simp only;rw [if_neg (by omega)]
  have hT':=hT.EM (b':=b) (x':=x+1) hn hb hx (.inl (by omega))
  have hN:bP T n 1=bN T n (.file b (x+1)):=by
   unfold bP;rw [hn];simp only
   rw [if_neg (by omega),show ((x:Int)+1).toNat=x+1 by omega]
   exact xy hT'.toTrOk hT'.lv
  have h1:=h.held hn (x+1)
  have hcast:(((x+1:Nat):Int))=(x:Int)+1:=by omega
  rw [hcast] at h1
  have hfin:PT (w.setCell ⟨B n,3,none⟩ (.int .i64 ((x:Int)+1))) r (bP T n 1) O:=by
   rw [hN]
   exact ⟨gN,s,B,G,V,h1.as rfl (fun k _=>jq hn k)⟩
  have hst:Stp w (w.setCell ⟨B n,3,none⟩ (.int .i64 ((x:Int)+1))) O O:=.cell _ (h.ownB n (by rw [hn];rfl))
  have hwx:wrap64 ((x:Int)+1)=(x:Int)+1:=by unfold wrap64;omega
  rw [hE,aC]
  clear h1 hT' hN hn hz hT hE hcast
  go_enter Tryz.func277,Tryz.ntmps277
  go_wp2_with (go_at_call 242;refine hF.mono ?_;rintro e w' ⟨rfl,hw'⟩;subst w')
  go_ret
  exact ⟨rfl,hfin,hst⟩
 ·have hF:=h.jo n hw hz
  have hE:dU T n 1=bF T n:=by
   unfold dU
   cases hn:T n with
   |none=>rfl
   |some nd=>cases nd with
    |dir C=>rfl
    |file b x=>exact absurd (by unfold bF;rw [hn]) hz
  have hN:bP T n 1=T:=by
   unfold bP
   cases hn:T n with
   |none=>rfl
   |some nd=>cases nd with
    |dir C=>rfl
    |file b x=>exact absurd (by unfold bF;rw [hn]) hz
  rw [hE,hN,az hz]
  generalize bF T n=z at *
  go_enter Tryz.func277,Tryz.ntmps277
  go_wp2_with (go_at_call 242;refine hF.mono ?_;rintro e w' ⟨rfl,hw'⟩;subst w')
  go_ret
  exact ⟨rfl,⟨gN,s,B,G,V,h⟩,.refl _ _⟩
theorem TrOk.era (hT:TrOk T) {n:Int}(h0:n≠0) (hc:aI T n=0):TrOk (nR T n):=by
 have hsub:∀k nd,nR T n k=some nd→T k=some nd:=fun k nd e=>by
  by_cases e1:k=n
  ·subst e1;rw [ib] at e;cases e
  ·rw [dR e1] at e;exact e
 have hl:¬VT T n:=fun h=>by
  rcases (kX hT n).1 h with e|e
  ·exact h0 e
  ·exact e hc
 refine ⟨?_,fun k e=>hT.key k ?_,fun k C e=>hT.nodup k C (hsub k _ e),fun k C sx m e e2=>?_,fun k C x e=>hT.name k C x (hsub k _ e),fun k b x e=>hT.small k b x (hsub k _ e)⟩
 ·obtain ⟨C,e⟩:=hT.root
  exact ⟨C,by rw [dR (Ne.symm h0)];exact e⟩
 ·cases h:nR T n k with
  |none=>rw [h] at e;cases e
  |some nd=>rw [hsub k nd h];rfl
 ·have:=hT.child k C sx m (hsub k _ e) e2
  rw [dR (fun em=>hl (.inr ⟨k,C,sx,hsub k _ e,by rw [←em];exact e2⟩))]
  exact this
theorem bq.era (hT:TrOk T) (hnr:aI T 0=0) {n:Int}{nd:Nd}(hl:∀k nd,k≠n→T k=some nd→k=0∨aI T k≠0∨dF nd≠0) (hn:T n=some nd) (h0:n≠0) (hc:aI T n=0) (h1:∀k,cnt1 (T n) k=0):bq (nR T n):=
 { toTrOk:=hT.era h0 hc
   nr:=by rw [BD h1];exact hnr
   lv:=fun k kK e=>by
    rw [BD h1]
    by_cases e1:k=n
    ·subst e1;rw [ib] at e;cases e
    ·rw [dR e1] at e;exact hl k kK e1 e }
end
section
variable {w w':World}{r gN s:Nat}{T:Wd}{Z:Int→Nat}{B G:Int→Nat}{V:Int→Value}{O:Nat→Prop}
theorem dw.xC (h:dw w r gN s T Z B G V O) (n:Int) (hw:(Lit.int .i64 n).wf=true) {nd:Nd}(hn:T n=some nd) (h1:∀k,cnt1 (T n) k=0) (hZ:∀k,(T k).isSome=true→Z k=aI T k) :
 Calls Tryz.prog 312 #[wp r,.int .i64 n] w fun e w'=>(∃v,e=.returned v)∧PT w' r (if aI T n=0∧dF nd=0 then nR T n else T) O∧Stp w w' O O:=by
 have hzn:=hZ n (by rw [hn];rfl)
 by_cases hz:aI T n=0∧dF nd=0
 ·rw [if_pos hz]
  refine (h.JI n hw hn (hzn.trans hz.1) hz.2).mono ?_
  rintro e w' ⟨hv,h',hs⟩
  refine ⟨hv,⟨gN,_,B,G,V,h'.as rfl (fun k hk=>?_)⟩,hs⟩
  have hk':(T k).isSome=true:=by
   by_cases e1:k=n
   ·subst e1;rw [ib] at hk;cases hk
   ·rw [dR e1] at hk;exact hk
  rw [BD h1,hZ k hk']
 ·rw [if_neg hz]
  refine (h.Ef n hw hn (by rw [hzn];exact hz)).mono ?_
  rintro e w' ⟨hv,rfl⟩
  exact ⟨hv,⟨gN,s,B,G,V,h.as rfl (fun k hk=>(hZ k hk).symm)⟩,.refl _ _⟩
theorem Bu (hT:TrOk T) {n:Int}{b:List UInt8}{x:Nat}(hn:T n=some (.file b x)):n≠0:=by
 rintro rfl
 obtain ⟨C,e⟩:=hT.root
 rw [e] at hn;cases hn
theorem zP (hT:bq T) {n:Int}{b:List UInt8}{x:Nat}(hn:T n=some (.file b (x+1))) :
 dU T n (-1)=0∧bP T n (-1)=(if aI (bN T n (.file b x)) n=0∧dF (.file b x)=0 then nR (bN T n (.file b x)) n else bN T n (.file b x))∧bq (bP T n (-1)):=by
 have hsm:=hT.small n b (x+1) hn
 have hok:TrOk (bN T n (.file b x)):=hT.toTrOk.EM hn hsm.1 (by omega)
 have hl:∀k nd,k≠n→bN T n (.file b x) k=some nd→k=0∨aI (bN T n (.file b x)) k≠0∨dF nd≠0:=fun k nd e h=>by
  rw [jq hn];rw [ag _ e] at h;exact hT.lv k nd h
 have h0:=Bu hT.toTrOk hn
 have hN:bP T n (-1)=gL (bN T n (.file b x)):=by
  unfold bP;rw [hn];simp only
  rw [if_neg (by omega),show (((x+1:Nat):Int) + -1).toNat=x by omega]
 have hsw:=ze hok n hl _ (ak T n (.file b x)) h0
 refine ⟨by unfold dU;rw [hn];simp only;rw [if_neg (by omega)],by rw [hN,hsw],?_⟩
 rw [hN,hsw]
 by_cases hz:aI (bN T n (.file b x)) n=0∧dF (.file b x)=0
 ·rw [if_pos hz]
  exact bq.era hok (by rw [jq hn];exact hT.nr) hl (ak _ _ _) h0 hz.1 (fun k=>by rw [ak];rfl)
 ·rw [if_neg hz]
  refine hT.EM hn hsm.1 (by omega) ?_
  by_cases e:aI T n=0
  ·exact .inl (fun ex=>hz ⟨by rw [jq hn];exact e,ex⟩)
  ·exact .inr e
theorem PT.BB (h:PT w r T O) (hT:bq T) (n:Int) (hw:(Lit.int .i64 n).wf=true) :
 Calls Tryz.prog 334 #[wp r,.int .i64 n] w fun e w'=>e=.returned (aH (dU T n (-1)))∧PT w' r (bP T n (-1)) O∧Stp w w' O O:=by
 obtain ⟨gN,s,B,G,V,h⟩:=h
 by_cases hz:bF T n=0
 ·obtain ⟨b,x,hn⟩:=kG hz
  have hF:=h.kZ n hw hn
  obtain ⟨_,_,_,n3⟩:=h.pY hn
  have nf:=h.pq hn 3
  cases x with
  |zero=>
   have hE:dU T n (-1)=10:=by unfold dU;rw [hn];simp only;rw [if_pos (by omega)]
   have hN:bP T n (-1)=T:=by unfold bP;rw [hn];simp only;rw [if_pos (by omega)]
   rw [hE,hN]
   have hfin:PT w r T O:=⟨gN,s,B,G,V,h⟩
   clear hn hz hT hE hN
   go_enter Tryz.func334,Tryz.ntmps334
   go_wp2_with (go_at_call 242;refine hF.mono ?_;rintro e w' ⟨rfl,hw'⟩;subst w')
   go_ret
   exact ⟨rfl,hfin,.refl _ _⟩
  |succ x=>
   obtain ⟨hE,hN,_⟩:=zP hT hn
   have hx:=(hT.small n b (x+1) hn).2
   have h1:=h.held hn x
   have hst:Stp w (w.setCell ⟨B n,3,none⟩ (.int .i64 (x:Int))) O O:=.cell _ (h.ownB n (by rw [hn];rfl))
   have hS:=h1.xC n hw (ak _ _ _) (fun k=>by rw [ak];rfl) (fun k _=>(jq hn k).symm)
   rw [←hN] at hS
   rw [hE,aC]
   have hxx:wrap64 (((x+1:Nat):Int)-1)=(x:Int):=by unfold wrap64;omega
   have hx0:(((x+1:Nat):Int) == 0)=false:=by simp;omega
   have hsub:((x+1:Nat):Int)-1=(x:Int):=by omega
   generalize ((x+1:Nat):Int)=X at *
   clear h1 hT hN hn hz hE
   go_enter Tryz.func334,Tryz.ntmps334
   go_wp2_with (first
    |(go_at_call 242;refine hF.mono ?_;rintro e w' ⟨rfl,hw'⟩;subst w')
    |(go_at_call 312;refine hS.mono ?_;rintro e w2 ⟨⟨v,rfl⟩,h2,st2⟩))
   go_ret
   exact ⟨rfl,h2,hst.trans st2⟩
 ·have hF:=h.jo n hw hz
  have hE:dU T n (-1)=bF T n:=by
   unfold dU
   cases hn:T n with
   |none=>rfl
   |some nd=>cases nd with
    |dir C=>rfl
    |file b x=>exact absurd (by unfold bF;rw [hn]) hz
  have hN:bP T n (-1)=T:=by
   unfold bP
   cases hn:T n with
   |none=>rfl
   |some nd=>cases nd with
    |dir C=>rfl
    |file b x=>exact absurd (by unfold bF;rw [hn]) hz
  rw [hE,hN,az hz]
  generalize bF T n=z at *
  go_enter Tryz.func334,Tryz.ntmps334
  go_wp2_with (go_at_call 242;refine hF.mono ?_;rintro e w' ⟨rfl,hw'⟩;subst w')
  go_ret
  exact ⟨rfl,⟨gN,s,B,G,V,h⟩,.refl _ _⟩
theorem uF (hT:bq T) {d n:Int}{nm:Nm}{C:List (Nm×Int)}(hd:T d=some (.dir C)) (hl:C.lookup nm=some n) (hm:nN T n=0) :
 n≠d∧n≠0∧(∀k,cnt1 (aW T d nm n) k=0)∧aW T d nm n=T n∧∀nd,T n=some nd→(gL (aW T d nm)=(if aI (aW T d nm) n=0∧dF nd=0 then nR (aW T d nm) n else aW T d nm)∧bq (gL (aW T d nm))):=by
 have hnd:n≠d:=by
  rintro rfl
  unfold nN at hm;rw [hd] at hm
  have:=List.length_pos_of_mem (qG hl)
  simp only at hm;omega
 have hc:=BF hT.toTrOk hd hl
 have hn0:n≠0:=by
  rintro rfl
  have:=hc 0
  rw [if_pos rfl,hT.nr] at this;omega
 have hdn:aW T d nm n=T n:=by rw [iJ hd,ag _ hnd]
 have hsome:=hT.child d C nm n hd hl
 have h1:∀k,cnt1 (aW T d nm n) k=0:=fun k=>by
  rw [hdn]
  cases e:T n with
  |none=>rfl
  |some nd=>cases nd with
   |file b x=>rfl
   |dir D=>
    unfold nN at hm;rw [e] at hm
    have:D=[]:=List.length_eq_zero_iff.1 hm
    subst this;rfl
 refine ⟨hnd,hn0,h1,hdn,fun nd hn=>?_⟩
 have hok:TrOk (aW T d nm):=hT.toTrOk.del d nm
 have hlv:∀k nd,k≠n→aW T d nm k=some nd→k=0∨aI (aW T d nm) k≠0∨dF nd≠0:=fun k kK e h=>by
  have hck:=hc k
  rw [if_neg e] at hck
  rw [show aI (aW T d nm) k=aI T k by omega]
  by_cases e1:k=d
  ·subst e1
   rw [iJ hd,ak] at h;cases h
   rcases hT.lv k _ hd with e2|e2|e2
   ·exact .inl e2
   ·exact .inr (.inl e2)
   ·exact absurd rfl e2
  ·rw [iJ hd,ag _ e1] at h;exact hT.lv k kK h
 have hnr:aI (aW T d nm) 0=0:=by have:=hc 0;rw [hT.nr] at this;omega
 have hsw:=ze hok n hlv nd (by rw [hdn];exact hn) hn0
 refine ⟨hsw,?_⟩
 rw [hsw]
 by_cases hz:aI (aW T d nm) n=0∧dF nd=0
 ·rw [if_pos hz]
  exact bq.era hok hnr hlv (by rw [hdn];exact hn) hn0 hz.1 h1
 ·rw [if_neg hz]
  exact { toTrOk:=hok,nr:=hnr,lv:=fun k kK e=>by
           by_cases e1:k=n
           ·subst e1
            rw [hdn,hn] at e;cases e
            by_cases e2:aI (aW T d nm) k=0
            ·exact .inr (.inr (fun e3=>hz ⟨e2,e3⟩))
            ·exact .inr (.inl e2)
           ·exact hlv k kK e1 e }
theorem bq.unlink (hT:bq T) (p:List UInt8):bq (dY T p):=by
 unfold dY
 by_cases hE:dZ T p=0
 ·rw [if_neg (fun e=>e hE)]
  unfold dZ at hE
  by_cases hz:(ae T p).2.2=0
  ·rw [if_neg (fun e=>e hz)] at hE
   obtain ⟨⟨C,hd⟩,_⟩:=dP hT.toTrOk hz
   rw [dK hd] at hE
   cases hl:C.lookup (ae T p).2.1 with
   |none=>rw [hl] at hE;simp at hE
   |some n=>
    rw [hl] at hE
    simp only at hE
    by_cases hm:nN T n=0
    ·obtain ⟨_,_,_,_,ht⟩:=uF hT hd hl hm
     have hs:=hT.child _ C _ n hd hl
     cases hn:T n with
     |none=>rw [hn] at hs;cases hs
     |some nd=>exact (ht nd hn).2
    ·rw [if_pos hm] at hE;omega
  ·rw [if_pos hz] at hE;exact absurd hE hz
 ·rw [if_pos hE];exact hT
end
section
variable {w w' w2:World}{f b n:Nat}{D D':DS}{g g':QG}{M N N':Ns}{d k:Int}{e:En}
theorem DI {W:World}{i:Nat}{a b c d e x:Value}{t:TypeId}(h:W.heap[i]? = some (.cells #[a,b,c,d,e,x] t)) (v:Value):(W.setCell ⟨i,2,none⟩ v).heap[i]? = some (.cells #[a,b,v,d,e,x] t):=by
 rw [aN W i 2 v _ _ _ h];rfl
theorem OC {W:World}{i:Nat}{a b c d e x:Value}{t:TypeId}(h:W.heap[i]? = some (.cells #[a,b,c,d,e,x] t)) (v:Value):(W.setCell ⟨i,4,none⟩ v).heap[i]? = some (.cells #[a,b,c,d,v,x] t):=by
 rw [aN W i 4 v _ _ _ h];rfl
theorem QF.count (h:QF w f D g n) (he:D.E d=some e) (c':Int):QF (w.setCell ⟨g.B d,2,none⟩ (.int .i64 c')) f { D with R:=fun i=>if i=d then some c' else D.R i } g n:=by
 obtain ⟨c,h1,h2,h3⟩:=h.dX d e he
 exact h.Y9 he c' (DI h2 _) (aU _ _ _ _)
theorem QF.place (h:QF w f D g n) (he:D.E d=some e) (a:Int):QF (w.setCell ⟨g.B d,4,none⟩ (.int .i64 a)) f { D with E:=fun i=>if i=d then some { e with pos:=a } else D.E i } g n:=by
 obtain ⟨c,h1,h2,h3⟩:=h.dX d e he
 exact h.Me he h1 { e with pos:=a } (OC h2 _) (aU _ _ _ _)
theorem QF.AL (h:QF w f D g n) (hb:g.cZ b=none) (hg:w.grownBy w' (some b)):QF w' f D g n:=
 h.keep (fun i hi=>hg.block i (h.lt i hi) (fun x=>by rw [Option.some.inj x,hb] at hi;cases hi)) hg.size
theorem dB.sS (t:dB w b g M N) {x:Nat}(hx:(g.cZ x).isSome=true) (hg:w.grownBy w' (some x)):dB w' b g M N:=
 t.keep (hg.block b t.tab.lt (fun e=>by rw [←Option.some.inj e,t.off] at hx;cases hx))
theorem QT.zl (w:World) (b i:Nat) (u v:Value):w.grownBy ((w.setCell ⟨b,i*2,none⟩ u).setCell ⟨b,i*2+1,none⟩ v) (some b):=gF (aU _ _ _ _) (aU _ _ _ _)
theorem QF.Bq (h:QF w f D g n) (t:dB w b g M N) {i:Nat}(hi:i<8) (hk:g.K k=some d) (hd:0<d) (he:D.E d=some e) {c:Int}(hc:D.R d=some c) (hc0:0≤c) (hc1:c<100000) :
 Calls Tryz.prog 239 #[wp f,wp b,.int .i64 (i:Int),.int .i64 k] w fun x w'=>x=.returned (.tuple #[])∧QF w' f { D with R:=fun j=>if j=d then some (c+1) else D.R j } g n∧dB w' b g (M.set i (k,false)) (N.set i (d,false))∧Wt (fun i=>(g.cZ i).isSome=true∨i=b) w w':=by
 obtain ⟨_,hk0,hk1⟩:=h.key k d hk
 obtain ⟨t0,t1⟩:=t.tab.at hi
 have z0:=t.tab.free (i*2)
 have z1:=t.tab.free (i*2+1)
 have hT1:=t.set (i:=i) (k,false) (d,false) (t.tab.put hi (k,false) ⟨by omega,hk1,fun e=>by omega⟩) ⟨rfl,.inr ⟨hd,hk⟩⟩
 have g1:=QT.zl w b i (.int .i64 k) (.bool false)
 have h1:=h.AL t.off g1
 obtain ⟨W,hW⟩:∃W,(w.setCell ⟨b,i*2,none⟩ (.int .i64 k)).setCell ⟨b,i*2+1,none⟩ (.bool false)=W:=⟨_,rfl⟩
 simp only at hT1
 rw [hW] at hT1 g1 h1
 have c1:=h1.cells.2
 have hlk:=h1.look (k:=k) (by omega) hk1
 rw [rF hk] at hlk
 obtain ⟨_,_,e2,_,_,_,ez⟩:=h1.kS he hc
 have ez2:=ez 2
 have h2:=h1.count he (c+1)
 obtain ⟨_,_,_,hkb⟩:=h.dX d e he
 have g2:=aU W (g.B d) 2 (.int .i64 (c+1))
 have XQ:=hT1.sS (by rw [hkb];rfl) g2
 have wt:Wt (fun i=>(g.cZ i).isSome=true∨i=b) w (W.setCell ⟨g.B d,2,none⟩ (.int .i64 (c+1))):=(Wt.grown g1 (.inr rfl)).trans (Wt.grown g2 (.inl (by rw [hkb];rfl)))
 have hw1:wrap64 (c+1)=c+1:=by unfold wrap64;omega
 have VM:(i:Int)<8:=by omega
 generalize N.set i (d,false)=N2 at *
 generalize M.set i (k,false)=M2 at *
 generalize (M[i]'(by rw [t.tab.len];exact hi)).1=X at *
 generalize (M[i]'(by rw [t.tab.len];exact hi)).2=Y at *
 generalize ({ D with R:=fun j=>if j=d then some (c+1) else D.R j }:DS)=D2 at *
 generalize g.B d=q at *
 clear h t hk he hc hT1 g1 h1 ez hkb g2 hc0 hc1
 go_enter Tryz.func239,Tryz.ntmps239
 go_upto_region 1 with fail
 clear t0 t1 z0 z1 hW
 go_wp2_with fail
 go_end0
 exact ⟨rfl,h2,XQ,wt⟩
theorem QF.JG (h:QF w f D g n) {q:Nat}{kd pr cn nd ps:Int}{pp:Value}(hq:w.heap[q]? = some (.cells #[.int .i64 kd,.int .i64 pr,.int .i64 cn,.int .i64 nd,.int .i64 ps,pp] 238)) (hqk:g.cZ q=some (.dX d)) (hkd:kd=1) (hT:bq D.T) (hn0:0≤nd) (hn1:nd<100000) :
 Calls Tryz.prog 297 #[wp f,wp q] w fun x w'=>x=.returned (.tuple #[])∧(∃g',QF w' f { D with T:=bP D.T nd (-1) } g' n∧(∀i,i<w.heap.size→g'.cZ i=g.cZ i)∧g'.K=g.K∧g'.r=g.r)∧Wt (fun i=>(g.cZ i).isSome=true) w w':=by
 subst hkd
 have hqc:∀ {V:World},V.heap[q]? = w.heap[q]? → V.cell? ⟨q,0,none⟩=some (.int .i64 1)∧V.cell? ⟨q,3,none⟩=some (.int .i64 nd):=fun {V} hV=>by
  rw [hq] at hV
  exact ⟨by rw [cell_of_row _ _ _ _ _ _ hV];rfl,by rw [cell_of_row _ _ _ _ _ _ hV];rfl⟩
 obtain ⟨e0,e3⟩:=hqc (V:=w) rfl
 have c0:=h.cells.1
 have hfb:f<w.heap.size:=h.lt f (by rw [h.tf];rfl)
 have TI:q<w.heap.size:=h.lt q (by rw [hqk];rfl)
 have Wl:∀V,Below w.heap.size w V→Calls Tryz.prog 334 #[wp g.r,.int .i64 nd] V fun x w'=>(∃z,x=.returned (aH z))∧((∃g',QF w' f { D with T:=bP D.T nd (-1) } g' n∧(∀i,i<w.heap.size→g'.cZ i=g.cZ i)∧g'.K=g.K∧g'.r=g.r)∧Wt (fun i=>(g.cZ i).isSome=true) w w')∧w'.cell? ⟨f,0,none⟩=some (wp g.r)∧w'.cell? ⟨q,3,none⟩=some (.int .i64 nd):=fun V hV=>by
  have hV':=h.below hV
  obtain ⟨O,p,hO⟩:=hV'.tree
  refine (p.BB hT nd (gW hn0 (by omega))).mono ?_
  rintro x w' ⟨rfl,p',st⟩
  obtain ⟨g',a1,a2,a3,a4,_⟩:=hV'.turn hO p' st
  refine ⟨⟨_,rfl⟩,⟨⟨g',a1,fun i hi=>a2 i (Nat.lt_of_lt_of_le hi hV.size),a3,a4⟩,(Wt.below _ hV).trans (st.wt.mono (fun i hi=>by rw [hO i hi];rfl))⟩,?_,?_⟩
  ·have:=a1.cells.1
   rw [a4] at this
   exact this
  ·exact (hqc ((st.wt.block q (Nat.lt_of_lt_of_le TI hV.size) (fun o=>mZ hqk (hO q o) (by simp) rfl)).trans (hV.block q TI))).2
 have hI:Calls Tryz.prog 145 #[wp q] w fun x w'=>x=.returned (.bool true)∧w'=w:=by
  clear Wl
  go_enter Tryz.func145,Tryz.ntmps145
  go_wp2_with fail
  go_ret
  exact ⟨rfl,rfl⟩
 generalize ({ D with T:=bP D.T nd (-1) }:DS)=D2 at *
 clear h hq hqk hT hn0 hn1 hqc hfb TI
 go_enter Tryz.func297,Tryz.ntmps297
 go_upto_region 1 with (go_at_call 145;refine hI.mono ?_;rintro x w1 ⟨rfl,hw1⟩;subst w1)
 go_region_held3 (fun w'=>w'.cell? ⟨f,0,none⟩=some (wp g.r)∧w'.cell? ⟨q,3,none⟩=some (.int .i64 nd)) (first|exact ⟨c0,e3⟩|exact ⟨k0,k3⟩) (first
  |(go_at_call 334;refine (Wl _ ⟨by rfl,by rfl,by rfl,by exact Nat.le_refl _,fun _ _=>by rfl⟩).mono ?_;rintro x w2 ⟨⟨z,rfl⟩,hR,k0,k3⟩))
 all_goals
  go_wp2_with fail
  refine bodyPost_ret (results_none rfl _ _ _) rfl ?_
  exact ⟨rfl,hR⟩
theorem QF.NC (h:QF w f D g n) {q:Nat}{kd pr cn nd ps p:Int}{x:Pi}(hq:w.heap[q]? = some (.cells #[.int .i64 kd,.int .i64 pr,.int .i64 cn,.int .i64 nd,.int .i64 ps,wp (g.Q p)] 238)) (hqk:g.cZ q=some (.dX d)) (hkd:kd≠1) (hp:D.P p=some x) (hF:0≤x.2.1∧x.2.1<1000) (hI:0≤x.2.2∧x.2.2<1000) :
 Calls Tryz.prog 297 #[wp f,wp q] w fun y w'=>y=.returned (.tuple #[])∧QF w' f { D with P:=fun i=>if i=p then some (pW x kd) else D.P i } g n∧Wt (fun i=>(g.cZ i).isSome=true) w w':=by
 have hqc:∀ {V:World},V.heap[q]? = w.heap[q]? → V.cell? ⟨q,0,none⟩=some (.int .i64 kd)∧V.cell? ⟨q,5,none⟩=some (wp (g.Q p)):=fun {V} hV=>by
  rw [hq] at hV
  exact ⟨by rw [cell_of_row _ _ _ _ _ _ hV];rfl,by rw [cell_of_row _ _ _ _ _ _ hV];rfl⟩
 obtain ⟨e0,e5⟩:=hqc (V:=w) rfl
 have TI:q<w.heap.size:=h.lt q (by rw [hqk];rfl)
 have Wl:∀V,Below w.heap.size w V→Calls Tryz.prog 335 #[wp (g.Q p),.int .i64 kd] V fun y w'=>(∃z,y=.returned (aH z))∧(QF w' f { D with P:=fun i=>if i=p then some (pW x kd) else D.P i } g n∧Wt (fun i=>(g.cZ i).isSome=true) w w')∧w'.cell? ⟨q,0,none⟩=some (.int .i64 kd)∧w'.cell? ⟨q,5,none⟩=some (wp (g.Q p)):=fun V hV=>by
  have hV':=h.below hV
  obtain ⟨tb,tk⟩:=hV'.pipe p x hp
  refine (tb.wT kd hF.1 hF.2 hI.1 hI.2).mono ?_
  rintro y w' ⟨rfl,TF,hg⟩
  have hb:w'.heap[q]? = w.heap[q]? := (hg.block q (Nat.lt_of_lt_of_le TI hV.size) (fun e=>mZ hqk tk (by simp) (Option.some.inj e))).trans (hV.block q TI)
  exact ⟨⟨_,rfl⟩,⟨hV'.piped hp (x':=pW x kd) TF hg,(Wt.below _ hV).trans (Wt.grown hg (by rw [tk];rfl))⟩,hqc hb⟩
 have adv:(kd == 1)=false:=by simpa using hkd
 have hIs:Calls Tryz.prog 145 #[wp q] w fun x w'=>x=.returned (.bool false)∧w'=w:=by
  clear Wl
  go_enter Tryz.func145,Tryz.ntmps145
  go_wp2_with fail
  go_ret
  exact ⟨rfl,rfl⟩
 generalize ({ D with P:=fun i=>if i=p then some (pW x kd) else D.P i }:DS)=D2 at *
 clear h hq hqk hqc TI hp hF hI hkd
 generalize g.Q p=Q at *
 go_enter Tryz.func297,Tryz.ntmps297
 go_upto_region 2 with (go_at_call 145;refine hIs.mono ?_;rintro x w1 ⟨rfl,hw1⟩;subst w1)
 go_region_held3 (fun w'=>w'.cell? ⟨q,0,none⟩=some (.int .i64 kd)∧w'.cell? ⟨q,5,none⟩=some (wp Q)) (first|exact ⟨e0,e5⟩|exact ⟨k0,k5⟩) (first
  |(go_at_call 335;refine (Wl _ ⟨by rfl,by rfl,by rfl,by exact Nat.le_refl _,fun _ _=>by rfl⟩).mono ?_;rintro x w2 ⟨⟨z,rfl⟩,hR,k0,k5⟩))
 all_goals
  go_wp2_with fail
  go_end0
  exact ⟨rfl,hR⟩
end
section
variable {w w':World}{r gN s:Nat}{T:Wd}{Z:Int→Nat}{B G:Int→Nat}{V:Int→Value}{O:Nat→Prop}
theorem zS (hC:∀k C,T k=some (.dir C)→C.length≤1000) (k:Int):aI T k≤64000:=by
 have h1:∀i:Int,cnt1 (T i) k≤1000:=fun i=>by
  cases e:T i with
  |none=>exact Nat.zero_le _
  |some nd=>cases nd with
   |file b x=>exact Nat.zero_le _
   |dir C=>exact Nat.le_trans (List.length_filter_le _ _) (hC i C e)
 have h2:∀m:Nat,jD T k m≤m*1000:=fun m=>by
  induction m with
  |zero=>exact Nat.le_refl _
  |succ m ih=>rw [jD];have:=h1 m;omega
 exact h2 64
theorem PT.tJ (h:PT w r T O) (hT:bq T) (p:List UInt8) (hp:p.length<100000) (m:Int) (hm:w.cell? ⟨4,0,none⟩=some (.int .i64 m)) (hE:dZ T p≠0) :
 Calls Tryz.prog 269 #[wp r,tx p] w fun e w'=>e=.returned (eZ (dZ T p))∧Below w.heap.size w w':=by
 obtain ⟨gN,s,B,G,V,h⟩:=h
 have hs1:=h.num.pos hT.toTrOk
 unfold dZ at hE ⊢
 by_cases hz:(ae T p).2.2=0
 ·rw [if_neg (fun e=>e hz)] at hE ⊢
  cases hh:lM T (ae T p).1 (ae T p).2.1 with
  |none=>
   have Co:=h.xw hT.toTrOk hs1 p hp m hm hz hh
   clear hE hh
   go_enter Tryz.func269,Tryz.ntmps269
   go_wp2_with (go_at_call 310;refine Co.mono ?_;rintro e w1 ⟨rfl,b1⟩)
   go_ret
   refine ⟨rfl,?_⟩
   repeat first|exact b1|refine Below.alloc ?_ (by first|omega|(have:=b1.size;omega) | (simp<;>omega)) _
  |some n=>
   rw [hh] at hE
   simp only at hE ⊢
   have hmz:nN T n≠0:=fun e=>hE (by rw [if_neg (fun e'=>e' e)])
   rw [if_pos hmz]
   have Co:=h.nz hT.toTrOk hs1 p hp m hm hz hh
   obtain ⟨D,hD⟩:∃D,T n=some (.dir D):=by
    cases e:T n with
    |none=>exact absurd (by unfold nN;rw [e]) hmz
    |some nd=>cases nd with
     |file b x=>exact absurd (by unfold nN;rw [e]) hmz
     |dir D=>exact ⟨D,rfl⟩
   have sw:D.length≠0:=by unfold nN at hmz;rw [hD] at hmz;exact hmz
   have hkey:=hT.key n (by rw [hD];rfl)
   have hwf:(Lit.int .i64 n).wf=true:=gW hkey.1 (by omega)
   have hgt:(0:Int)<(D.length:Int):=by omega
   clear hE hh hmz
   generalize (ae T p).1=d at *
   generalize (ae T p).2.1=nm at *
   go_enter Tryz.func269,Tryz.ntmps269
   go_wp2_with (first
    |(go_at_call 310;refine Co.mono ?_;rintro e w1 ⟨rfl,b1⟩
      have h1:=(h.below b1).below ((Below.refl _ w1).alloc (Nat.le_refl _) (.cells #[.map (some (G d)),tx nm] 408))
      have c0:=h1.c0
      have hlk:=h1.look n hwf
      rw [hD] at hlk
      simp only [Option.isSome_some,if_true] at hlk
      obtain ⟨n0,_⟩:=h1.yN hD
      have Cq:=h1.jS n D hD)
    |(refine uD rfl _ 262 rfl 3 Tryz.underlying262 (G n) _ _ rfl Cq ?_))
   go_ret
   refine ⟨rfl,?_⟩
   repeat first|exact b1|refine Below.alloc ?_ (by first|omega|(have:=b1.size;omega) | (simp<;>omega)) _
 ·rw [if_pos hz] at hE ⊢
  have Co:=h.yY hT.toTrOk hs1 p hp m hm hz
  generalize (ae T p).2.2=z at *
  go_enter Tryz.func269,Tryz.ntmps269
  go_wp2_with (go_at_call 310;refine Co.mono ?_;rintro e w1 ⟨rfl,b1⟩)
  go_ret
  refine ⟨rfl,?_⟩
  repeat first|exact b1|refine Below.alloc ?_ (by first|omega|(have:=b1.size;omega) | (simp<;>omega)) _
theorem Kh (ty:TypeId) (w:World):(Builtin.len_ #[262] ty #[.map none]).run Tryz.prog w=.ok (.int .i64 0) w:=by kernel_rfl
end
end Go.Proofs.YtcfhanoekniaaaaGreatDoor

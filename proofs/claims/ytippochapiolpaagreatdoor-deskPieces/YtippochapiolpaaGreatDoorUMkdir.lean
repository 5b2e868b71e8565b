/- Package tree: a name put at a place, and taken away, by their Go text. -/
import Derived.Test.YtippochapiolpaaGreatDoorUTake
import Derived.Test.YtippochapiolpaaGreatDoorShelfV
import Derived.Deep.RegionHeld3
import Derived.Test.YtippochapiolpaaGreatDoorDRw
import Derived.Test.YtippochapiolpaaGreatDoorTubes3
import Derived.Lib.BufferRead
import Derived.Laws.IdiomCopy
import Derived.Laws.MakeOwn
set_option maxHeartbeats 4000000
set_option maxRecDepth 100000
namespace Go.Proofs.YtippochapiolpaaGreatDoor
open Go.RowKit Go.Maps
theorem Ql (z:List UInt8) (hz:z.length<100000) (W:World):Calls Tryz.prog 301 #[tx z] W fun e w'=>e=.returned (tx z)∧Below W.heap.size W w':=by
 have hs:(⟨z.toArray⟩:ByteArray).size=z.length:=by simp [ByteArray.size]
 have hC:Calls Tryz.prog 279 #[tx z] W fun e w'=>e=.returned (tx z)∧Below W.heap.size W w':=Any.stringslite_Clone Tryz.cloneSL ⟨z.toArray⟩ W (by rw [hs];omega)
 go_enter Tryz.func301,Tryz.ntmps301
 go_wp2_with (go_at_call 279;refine hC.mono ?_;rintro e w1 ⟨rfl,b1⟩)
 go_ret
 exact ⟨rfl,b1⟩
section
variable {w w':World}
theorem F6 {g n:Nat}{M:List UInt8→Option Value}(hS:SMap w g n M) (nm:List UInt8) (hnm:nm.length≤1000) (hM:(M nm).isSome=true) :
 Calls Tryz.prog 259 #[uj (some g) nm] w fun e w'=>(∃v,e=.returned v)∧SMap w' g (n-1) (fun i=>if i=nm then none else M i)∧w.grownBy w' (some g):=by
 have hx:nm.length≤maxLen:=by unfold maxLen;omega
 have hA:SMap (w.alloc (.cells #[.map (some g),tx nm] 283)) g n M:=hS.keep (Below.heap_alloc _ _ _ hS.lt)
 have gA:∀w1,(w.alloc (.cells #[.map (some g),tx nm] 283)).grownBy w1 (some g)→w.grownBy w1 (some g):=fun w1 g1=>
  ⟨g1.os,g1.tape,g1.output,by have:=g1.size;simp at this;omega,fun i hi hne=>(g1.block i (by simp;omega) hne).trans (Below.heap_alloc _ _ _ hi)⟩
 go_enter Tryz.func259,Tryz.ntmps259
 go_wp2_with (refine Hr rfl _ _ 160 rfl 3 Tryz.underlying160 g _ _ rfl hA nm rfl hx ?_;intro w1 sm g1;rw [if_pos hM] at sm)
 go_end0
 exact ⟨⟨_,rfl⟩,sm,gA _ g1⟩
theorem Jl {g n:Nat}{M:List UInt8→Option Value}(hS:SMap w g n M) (hn:n<maxLen) (nm:List UInt8) (hnm:nm.length≤1000) (hM:M nm=none) (k:Int) :
 Calls Tryz.prog 236 #[uj (some g) nm,.int .i64 k] w fun e w'=>(∃v,e=.returned v)∧SMap w' g (n+1) (fun i=>if i=nm then some (.int .i64 k) else M i)∧w.grownBy w' (some g):=by
 have hx:nm.length≤maxLen:=by unfold maxLen;omega
 have hgl:=hS.lt
 have hC:=Ql nm (by omega)
 have hput:∀W w1,Below W.heap.size W w1→Below w.heap.size w W→∃w2,(Instr.mapUpdate 160 (.map (some g)) (tx nm) (.int .i64 k)).run Tryz.prog w1=.ok () w2∧SMap w2 g (n+1) (fun i=>if i=nm then some (.int .i64 k) else M i)∧w.grownBy w2 (some g):=fun W w1 b1 bW=>by
  have b9:Below w.heap.size w w1:=bW.trans (b1.mono bW.size)
  have hq:SMap w1 g n M:=hS.keep (b9.block g hgl)
  obtain ⟨w2,r1,r2,r3⟩:=hq.put Tryz.underlying160 hn nm hx (.int .i64 k)
  rw [hM] at r2
  exact ⟨w2,r1,r2,⟨r3.os.trans b9.os,r3.tape.trans b9.tape,r3.output.trans b9.output,Nat.le_trans b9.size r3.size,fun i hi hne=>(r3.block i (Nat.lt_of_lt_of_le hi b9.size) hne).trans (b9.block i hi)⟩⟩
 have afO:∀ {W w1:World},Below W.heap.size W w1→W.heap[w.heap.size]? = some (.cells #[.map (some g),tx nm] 283)→w1.heap[w.heap.size]? = some (.cells #[.map (some g),tx nm] 283):=fun {W w1} b1 h=>(b1.block _ (Array.getElem?_eq_some_iff.1 h).1).trans h
 have hA:(w.alloc (.cells #[.map (some g),tx nm] 283)).heap[w.heap.size]? = some (.cells #[.map (some g),tx nm] 283):=World.alloc_heap_new _ _
 have bA:Below w.heap.size w (w.alloc (.cells #[.map (some g),tx nm] 283)):=(Below.refl _ _).alloc (Nat.le_refl _) _
 go_enter Tryz.func236,Tryz.ntmps236
 go_wp2_with fail
 generalize w.alloc (.cells #[.map (some g),tx nm] 283)=WA at *
 obtain ⟨c0,c1,_,_⟩:=aN hA
 go_region_with (go_at_call 301;refine (hC _).mono ?_;rintro e w1 ⟨rfl,b1⟩;obtain ⟨w2,hrun,sm,g2⟩:=hput _ w1 b1 (by first|exact bA|exact pK bA _|exact xP bA);obtain ⟨d0,d1,_,_⟩:=aN (afO b1 (by exact hA)))
 all_goals
  go_wp2_with fail
  go_end0
  exact ⟨⟨_,rfl⟩,sm,g2⟩
end
theorem qO {w:World}{j o:Nat}{es:Array MapEntry}{cl:Nat}(h:w.heap[j]? = some (.map es cl)):w.cell? ⟨j,o,none⟩=none:=by simp [World.cell?,h]
section
variable {w w':World}{r gN s:Nat}{T:Wd}{Z:Int→Nat}{B G:Int→Nat}{V:Int→Value}{O:Nat→Prop}
theorem Dat.grown {v:Value}{b:List UInt8}{j:Nat}(h:Dat w v b) (hg:w.grownBy w' (some j)) (hj:∀x,w.cell? ⟨j,0,none⟩≠some (.int .u8 x)):Dat w' v b:=by
 rcases h with h|⟨g,c,rfl,hc,hl,hi⟩
 ·exact .inl h
 ·refine .inr ⟨g,c,rfl,hc,Nat.lt_of_lt_of_le hl hg.size,fun i h=>?_⟩
  have hne:g≠j:=fun e=>hj _ (by rw [←e];exact hi 0 (by omega))
  rw [World.cell?_of_block (w:=w) (a:=⟨g,i,none⟩) (hg.block g hl (fun e=>hne (Option.some.inj e)))];exact hi i h
theorem dL.YZ (h:dL w r gN s T Z B G V O) {d:Int}{C C':List (Nm×Int)}(hd:T d=some (.dir C)) (hg:w.grownBy w' (some (G d)))
 (sm:SMap w' (G d) C'.length (fun i=>(C'.lookup i).map (.int .i64 ·))):dL w' r gN s (cB T d (.dir C')) Z B G V O:=by
 obtain ⟨es,cl,hm⟩:=(h.ll d C hd).isMap
 have hk:∀i,i<w.heap.size→i≠G d→w'.heap[i]? = w.heap[i]? := fun i hi hne=>hg.block i hi (fun e=>hne (Option.some.inj e))
 have hrG:r≠G d:=fun e=>by rw [←e,h.head] at hm;cases hm
 have hBG:∀k nd,T k=some nd→B k≠G d:=fun k nd e1 e=>by rw [←e,h.node k nd e1] at hm;cases hm
 have hold:∀k nd,cB T d (.dir C') k=some nd→(k=d∧nd=.dir C')∨(k≠d∧T k=some nd):=fun k nd e=>by
  by_cases e1:k=d
  ·subst e1;rw [aj] at e;cases e;exact .inl ⟨rfl,rfl⟩
  ·rw [ag _ e1] at e;exact .inr ⟨e1,e⟩
 have xU:∀k D,cB T d (.dir C') k=some (.dir D)→∃D',T k=some (.dir D'):=fun k D e=>by
  rcases hold k _ e with ⟨rfl,_⟩|⟨_,e⟩
  ·exact ⟨C,hd⟩
  ·exact ⟨D,e⟩
 have hsm:∀k,(cB T d (.dir C') k).isSome=(T k).isSome:=fun k=>by
  by_cases e1:k=d
  ·subst e1;rw [aj,hd];rfl
  ·rw [ag _ e1]
 refine ⟨(hk r (h.lt _ h.yE) hrG).trans h.head,?_,fun k nd e=>?_,fun k D e=>?_,fun k b x e=>?_,fun k D e=>?_,fun k k' D D' e e' hG=>?_,fun k k' e e'=>h.Nq k k' (by rw [←hsm];exact e) (by rw [←hsm];exact e'),h.yE,h.sj,fun k e=>h.ownB k (by rw [←hsm];exact e),fun k D e=>?_,fun k b x i e=>?_,fun i hi=>Nat.lt_of_lt_of_le (h.lt i hi) hg.size⟩
 ·have e:(fun k=>(cB T d (.dir C') k).map (fun _=>wp (B k)))=fun k=>(T k).map (fun _=>wp (B k)):=by
   funext k
   by_cases e1:k=d
   ·subst e1;rw [aj,hd];rfl
   ·rw [ag _ e1]
  rw [e]
  exact h.map.keep (hk gN h.map.lt (fun e=>h.sep d C hd e.symm))
 ·rcases hold k nd e with ⟨rfl,rfl⟩|⟨_,e⟩
  ·exact (hk _ (h.lt _ (h.ownB k (by rw [hd];rfl))) (hBG k _ hd)).trans (h.node k (.dir C) hd)
  ·exact (hk _ (h.lt _ (h.ownB k (by rw [e];rfl))) (hBG k _ e)).trans (h.node k _ e)
 ·rcases hold k _ e with ⟨rfl,e9⟩|⟨e1,e⟩
  ·cases e9;exact sm
  ·exact (h.ll k D e).keep (hk _ (h.ll k D e).lt (fun e2=>e1 (h.inj k d D C e hd e2)))
 ·rcases hold k _ e with ⟨_,e⟩|⟨_,e⟩
  ·cases e
  ·exact (h.data k b x e).grown hg (fun y hy=>by rw [qO hm] at hy;cases hy)
 ·obtain ⟨D',e'⟩:=xU k D e
  exact h.sep k D' e'
 ·obtain ⟨D1,e1⟩:=xU k D e
  obtain ⟨D2,e2⟩:=xU k' D' e'
  exact h.inj k k' D1 D2 e1 e2 hG
 ·obtain ⟨D',e'⟩:=xU k D e
  exact h.nT k D' e'
 ·rcases hold k _ e with ⟨_,e⟩|⟨_,e⟩
  ·cases e
  ·exact h.Fz k b x i e
theorem dL.add (h:dL w r gN s T Z B G V O) {d n:Int}{nm:Nm}{C:List (Nm×Int)}(hd:T d=some (.dir C)) (hg:w.grownBy w' (some (G d)))
 (sm:SMap w' (G d) (C.length+1) (fun i=>if i=nm then some (.int .i64 n) else (C.lookup i).map (.int .i64 ·))):dL w' r gN s (gz T d nm n) Z B G V O:=by
 rw [j5 hd]
 refine h.YZ hd hg ?_
 have e2:(fun i=>if i=nm then some (.int .i64 n) else (C.lookup i).map (.int .i64 ·))=fun i=>(((nm,n) :: C).lookup i).map (Value.int .i64 ·):=by
  funext i
  by_cases ei:i=nm
  ·subst ei;simp [List.lookup]
  ·have:(i == nm)=false:=by simp [ei]
   simp [List.lookup,this,ei]
 rw [e2] at sm
 exact sm
theorem dL.del (h:dL w r gN s T Z B G V O) (hT:TrOk T) {d:Int}{nm:Nm}{C:List (Nm×Int)}(hd:T d=some (.dir C)) (hy:(C.lookup nm).isSome=true) (hg:w.grownBy w' (some (G d)))
 (sm:SMap w' (G d) (C.length-1) (fun i=>if i=nm then none else (C.lookup i).map (.int .i64 ·))):dL w' r gN s (aZ T d nm) Z B G V O:=by
 rw [jD hd]
 refine h.YZ hd hg ?_
 have e2:(fun i=>if i=nm then none else (C.lookup i).map (.int .i64 ·))=fun i=>((C.filter (fun x=>x.1 != nm)).lookup i).map (Value.int .i64 ·):=by
  funext i
  rw [pG]
  by_cases ei:i=nm<;>simp [ei]
 rw [e2] at sm
 rw [AQ (hT.nodup d C hd) hy]
 exact sm
theorem dL.apart (h:dL w r gN s T Z B G V O) {k:Int}{nd:Nd}(hk:T k=some nd):r≠B k∧gN≠B k∧(∀i C,T i=some (.dir C)→G i≠B k)∧(∀i,(T i).isSome=true→i≠k→B i≠B k)∧∀x,w.cell? ⟨B k,0,none⟩≠some (.int .u8 x):=by
 have hn:=h.node k nd hk
 refine ⟨fun e=>?_,fun e=>?_,fun i C hi e=>?_,fun i hi hne e=>hne (h.Nq i k hi (by rw [hk];rfl) e),fun x e=>?_⟩
 ·rw [←e,h.head] at hn;injection hn with hn;injection hn with h1 h2
  exact absurd h2 (by decide)
 ·obtain ⟨es,cl,hm⟩:=h.map.isMap
  rw [e,hn] at hm;cases hm
 ·obtain ⟨es,cl,hm⟩:=(h.ll i C hi).isMap
  rw [e,hn] at hm;cases hm
 ·rw [cell_of_row w (B k) 0 _ _ _ hn] at e
  cases nd<;>(simp [eF] at e)
theorem dL.Jp {mP:Nd}{Z':Int→Nat}{V':Int→Value}{O':Nat→Prop}(h:dL w r gN s T Z B G V O) {k:Int}{nd:Nd}(hk:T k=some nd) (hg:w.grownBy w' (some (B k)))
 (hnew:w'.heap[B k]? = some (.cells (eF G V' Z' k mP) 162)) (hZ:∀i,i≠k→Z' i=Z i) (hV:∀i,i≠k→V' i=V i)
 (hkind:(∃C,nd=.dir C∧mP=.dir C)∨∃b x b' x',nd=.file b x∧mP=.file b' x'∧Dat w' (V' k) b'∧∀i,BN (V' k)=some i→O' i)
 (hO:∀i,O i→O' i) (hlt:∀i,O' i→i<w'.heap.size):dL w' r gN s (cB T k mP) Z' B G V' O':=by
 obtain ⟨a1,a2,a3,a4,a5⟩:=h.apart hk
 have hkp:∀i,i<w.heap.size→i≠B k→w'.heap[i]? = w.heap[i]? := fun i hi hne=>hg.block i hi (fun e=>hne (Option.some.inj e))
 have hsm:∀i,(cB T k mP i).isSome=(T i).isSome:=fun i=>by
  by_cases e1:i=k
  ·subst e1;rw [aj,hk];rfl
  ·rw [ag _ e1]
 have xU:∀i D,cB T k mP i=some (.dir D)→T i=some (.dir D):=fun i D e=>by
  by_cases e1:i=k
  ·subst e1
   rw [aj] at e
   rcases hkind with ⟨C,rfl,rfl⟩|⟨b,x,b',x',rfl,rfl,_⟩
   ·cases e;exact hk
   ·cases e
  ·rw [ag _ e1] at e;exact e
 have hcell:∀i Zv,i≠k→eF G V' Z' i Zv=eF G V Z i Zv:=fun i Zv e=>by
  cases Zv<;>simp [eF,hZ i e,hV i e]
 refine ⟨(hkp r (h.lt _ h.yE) a1).trans h.head,?_,fun i Zv e=>?_,fun i D e=>(h.ll i D (xU i D e)).keep (hkp _ (h.ll i D (xU i D e)).lt (a3 i D (xU i D e))),fun i b x e=>?_,fun i D e=>h.sep i D (xU i D e),fun i i' D D' e e'=>h.inj i i' D D' (xU i D e) (xU i' D' e'),fun i i' e e'=>h.Nq i i' (by rw [←hsm];exact e) (by rw [←hsm];exact e'),hO _ h.yE,hO _ h.sj,fun i e=>hO _ (h.ownB i (by rw [←hsm];exact e)),fun i D e=>hO _ (h.nT i D (xU i D e)),fun i b x j e hj=>?_,hlt⟩
 ·have e:(fun i=>(cB T k mP i).map (fun _=>wp (B i)))=fun i=>(T i).map (fun _=>wp (B i)):=by
   funext i
   by_cases e1:i=k
   ·subst e1;rw [aj,hk];rfl
   ·rw [ag _ e1]
  rw [e]
  exact h.map.keep (hkp gN h.map.lt a2)
 ·by_cases e1:i=k
  ·subst e1;rw [aj] at e;cases e;exact hnew
  ·rw [ag _ e1] at e
   rw [hcell i Zv e1]
   exact (hkp _ (h.lt _ (h.ownB i (by rw [e];rfl))) (a4 i (by rw [e];rfl) e1)).trans (h.node i Zv e)
 ·by_cases e1:i=k
  ·subst e1
   rw [aj] at e
   rcases hkind with ⟨C,rfl,rfl⟩|⟨b0,x0,b',x',rfl,rfl,hdat,_⟩
   ·cases e
   ·cases e;exact hdat
  ·rw [ag _ e1] at e
   rw [hV i e1]
   exact (h.data i b x e).grown hg a5
 ·by_cases e1:i=k
  ·subst e1
   rw [aj] at e
   rcases hkind with ⟨C,rfl,rfl⟩|⟨b0,x0,b',x',rfl,rfl,_,hown⟩
   ·cases e
   ·exact hown j hj
  ·rw [ag _ e1] at e
   rw [hV i e1] at hj
   exact hO _ (h.Fz i b x j e hj)
theorem dL.as {Z':Int→Nat}{T':Wd}(h:dL w r gN s T Z B G V O) (hT:T'=T) (hZ:∀k,(T k).isSome=true→Z' k=Z k):dL w r gN s T' Z' B G V O:=by
 subst hT
 refine { h with node:=fun k nd e=>?_ }
 have e2:eF G V Z' k nd=eF G V Z k nd:=by cases nd<;>simp [eF,hZ k (by rw [e];rfl)]
 rw [e2];exact h.node k nd e
theorem Om {T:Wd}{k:Int}{nd:Nd}(h:T k=some nd):cB T k nd=T:=by
 funext i
 by_cases e:i=k
 ·subst e;rw [aj,h]
 ·rw [ag _ e]
theorem dL.count (h:dL w r gN s T Z B G V O) {k:Int}{nd:Nd}(hk:T k=some nd) (z:Nat):dL (w.setCell ⟨B k,2,none⟩ (.int .i64 (z:Int))) r gN s T (fun i=>if i=k then z else Z i) B G V O:=by
 have hg:w.grownBy (w.setCell ⟨B k,2,none⟩ (.int .i64 (z:Int))) (some (B k)):=⟨rfl,rfl,rfl,by simp [World.setCell],fun i _ hne=>Below.heap_setCell _ _ _ _ (fun e=>hne (by rw [e]))⟩
 have hz:(w.setCell ⟨B k,2,none⟩ (.int .i64 (z:Int))).heap.size=w.heap.size:=by simp
 have:=h.Jp (mP:=nd) (Z':=fun i=>if i=k then z else Z i) (V':=V) (O':=O) hk hg (by
  rw [aS w (B k) 2 _ _ _ _ (h.node k nd hk)]
  cases nd<;>(simp [eF])) (fun i e=>if_neg e) (fun _ _=>rfl) (by
  cases nd with
  |dir C=>exact .inl ⟨C,rfl,rfl⟩
  |file b x=>exact .inr ⟨b,x,b,x,rfl,rfl,(h.data k b x hk).grown hg (h.apart hk).2.2.2.2,fun i hi=>h.Fz k b x i hk hi⟩) (fun _ h=>h) (fun i hi=>by rw [hz];exact h.lt i hi)
 rw [Om hk] at this
 exact this
theorem dL.held (h:dL w r gN s T Z B G V O) {k:Int}{b:List UInt8}{x:Nat}(hk:T k=some (.file b x)) (z:Nat):dL (w.setCell ⟨B k,3,none⟩ (.int .i64 (z:Int))) r gN s (cB T k (.file b z)) Z B G V O:=by
 have hg:w.grownBy (w.setCell ⟨B k,3,none⟩ (.int .i64 (z:Int))) (some (B k)):=⟨rfl,rfl,rfl,by simp [World.setCell],fun i _ hne=>Below.heap_setCell _ _ _ _ (fun e=>hne (by rw [e]))⟩
 have hz:(w.setCell ⟨B k,3,none⟩ (.int .i64 (z:Int))).heap.size=w.heap.size:=by simp
 exact h.Jp (mP:=.file b z) (Z':=Z) (V':=V) (O':=O) hk hg (by
  rw [aS w (B k) 3 _ _ _ _ (h.node k _ hk)]
  simp [eF]) (fun _ _=>rfl) (fun _ _=>rfl) (.inr ⟨b,x,b,z,rfl,rfl,(h.data k b x hk).grown hg (h.apart hk).2.2.2.2,fun i hi=>h.Fz k b x i hk hi⟩) (fun _ h=>h) (fun i hi=>by rw [hz];exact h.lt i hi)
theorem dL.bytes (h:dL w r gN s T Z B G V O) {k:Int}{b b':List UInt8}{x:Nat}(hk:T k=some (.file b x)) {v:Value}(hd:Dat w v b'):∃V' O',dL (w.setCell ⟨B k,1,none⟩ v) r gN s (cB T k (.file b' x)) Z B G V' O'∧∀i,O' i↔O i∨BN v=some i:=by
 have hg:w.grownBy (w.setCell ⟨B k,1,none⟩ v) (some (B k)):=⟨rfl,rfl,rfl,by simp [World.setCell],fun i _ hne=>Below.heap_setCell _ _ _ _ (fun e=>hne (by rw [e]))⟩
 have hz:(w.setCell ⟨B k,1,none⟩ v).heap.size=w.heap.size:=by simp
 refine ⟨fun i=>if i=k then v else V i,fun i=>O i∨BN v=some i,?_,fun _=>Iff.rfl⟩
 refine h.Jp (mP:=.file b' x) (Z':=Z) hk hg (by
  rw [aS w (B k) 1 _ _ _ _ (h.node k _ hk)]
  simp [eF]) (fun _ _=>rfl) (fun _ e=>if_neg e) (.inr ⟨b,x,b',x,rfl,rfl,?_,fun i hi=>?_⟩) (fun _ h=>.inl h) (fun i hi=>?_)
 ·rw [if_pos rfl];exact hd.grown hg (h.apart hk).2.2.2.2
 ·rw [if_pos rfl] at hi;exact .inr hi
 ·rw [hz]
  rcases hi with hi|hi
  ·exact h.lt i hi
  ·exact hd.lt hi
theorem dL.era (h:dL w r gN s T Z B G V O) (n:Int) {s':Nat}(hg:w.grownBy w' (some gN)) (pm:aK w' gN s' (fun i=>if i=n then none else (T i).map (fun _=>wp (B i)))):dL w' r gN s' (pY T n) Z B G V O:=by
 obtain ⟨es,cl,hm⟩:=h.map.isMap
 have hkp:∀i,i<w.heap.size→i≠gN→w'.heap[i]? = w.heap[i]? := fun i hi hne=>hg.block i hi (fun e=>hne (Option.some.inj e))
 have hsub:∀k nd,pY T n k=some nd→T k=some nd:=fun k nd e=>by
  by_cases e1:k=n
  ·subst e1;rw [jm] at e;cases e
  ·rw [fw e1] at e;exact e
 have hss:∀k,(pY T n k).isSome=true→(T k).isSome=true:=fun k e=>by
  by_cases e1:k=n
  ·subst e1;rw [jm] at e;cases e
  ·rw [fw e1] at e;exact e
 refine ⟨(hkp r (h.lt _ h.yE) (fun e=>by rw [←e,h.head] at hm;cases hm)).trans h.head,?_,fun k nd e=>(hkp _ (h.lt _ (h.ownB k (hss k (by rw [e];rfl)))) (fun e2=>by rw [←e2,h.node k nd (hsub k nd e)] at hm;cases hm)).trans (h.node k nd (hsub k nd e)),fun k D e=>(h.ll k D (hsub k _ e)).keep (hkp _ (h.ll k D (hsub k _ e)).lt (h.sep k D (hsub k _ e))),fun k b x e=>(h.data k b x (hsub k _ e)).grown hg (fun y hy=>by rw [qO hm] at hy;cases hy),fun k D e=>h.sep k D (hsub k _ e),fun k k' D D' e e'=>h.inj k k' D D' (hsub k _ e) (hsub k' _ e'),fun k k' e e'=>h.Nq k k' (hss k e) (hss k' e'),h.yE,h.sj,fun k e=>h.ownB k (hss k e),fun k D e=>h.nT k D (hsub k _ e),fun k b x i e=>h.Fz k b x i (hsub k _ e),fun i hi=>Nat.lt_of_lt_of_le (h.lt i hi) hg.size⟩
 have e:(fun i=>if i=n then none else (T i).map (fun _=>wp (B i)))=fun k=>(pY T n k).map (fun _=>wp (B k)):=by
  funext k
  by_cases e1:k=n
  ·subst e1;rw [jm,if_pos rfl];rfl
  ·rw [fw e1,if_neg e1]
 rw [e] at pm
 exact pm
end
def dF (T:Wd) (s:Nat):Prop:=∃ks:List Int,ks.Nodup∧ks.length=s∧∀x,x∈ks↔(T x).isSome=true
theorem TB {a b:List Int}(ha:a.Nodup) (hb:b.Nodup) (h:∀x,x∈a↔x∈b):a.length=b.length:=((List.perm_ext_iff_of_nodup ha hb).2 h).length_eq
theorem dF.one {T:Wd}{s s':Nat}(h:dF T s) (h':dF T s'):s=s':=by
 obtain ⟨a,ha,rfl,ma⟩:=h
 obtain ⟨b,hb,rfl,mb⟩:=h'
 exact TB ha hb (fun x=>(ma x).trans (mb x).symm)
theorem aK.num {w:World}{g s:Nat}{T:Wd}{f:Int→Nd→Value}(h:aK w g s (fun k=>(T k).map (f k))):dF T s:=by
 obtain ⟨D,_,_,hn,hl,hm⟩:=h.data
 exact ⟨_,hn,hl,fun x=>by rw [hm x];cases T x<;>rfl⟩
theorem dF.pos {T:Wd}{s:Nat}(h:dF T s) (hT:TrOk T):1≤s:=by
 obtain ⟨ks,_,rfl,m⟩:=h
 obtain ⟨C,e⟩:=hT.root
 exact List.length_pos_of_mem ((m 0).2 (by rw [e];rfl))
theorem L8:∀ {a b:List Int},a.Nodup→a ⊆ b→a.length≤b.length
 | [],_,_,_=>Nat.zero_le _
 |x :: t,b,hn,hs=>by
  rw [List.nodup_cons] at hn
  have hx:x∈b:=hs List.mem_cons_self
  have h1:=L8 (b:=b.erase x) hn.2 (fun y hy=>(List.mem_erase_of_ne (fun e=>hn.1 (by rw [←e];exact hy))).2 (hs (List.mem_cons_of_mem _ hy)))
  have h2:=List.length_erase_of_mem hx
  have h3:=List.length_pos_of_mem hx
  rw [List.length_cons];omega
theorem dF.free {T:Wd}{s:Nat}(h:dF T s) {k:Nat}(hk:∀i:Nat,i<k→(T i).isSome=true):k≤s:=by
 obtain ⟨ks,hn,rfl,m⟩:=h
 have hsub:((List.range k).map (fun i:Nat=>(i:Int))) ⊆ ks:=fun x hx=>by
  obtain ⟨i,hi,rfl⟩:=List.mem_map.1 hx
  exact (m _).2 (hk i (List.mem_range.1 hi))
 have hnd:((List.range k).map (fun i:Nat=>(i:Int))).Nodup:=List.pairwise_map.2 (List.nodup_range.imp (fun {a b} h e=>h (by omega)))
 have:=L8 hnd hsub
 simpa using this
def PT (w:World) (r:Nat) (T:Wd) (O:Nat→Prop):Prop:=∃gN s B G V,dL w r gN s T (aM T) B G V O
section
variable {w w':World}{r gN s:Nat}{T:Wd}{Z:Int→Nat}{B G:Int→Nat}{V:Int→Value}{O:Nat→Prop}
theorem PT.below (h:PT w r T O) (hb:Below w.heap.size w w'):PT w' r T O:=by
 obtain ⟨gN,s,B,G,V,h⟩:=h
 exact ⟨gN,s,B,G,V,h.below hb⟩
theorem PT.keep (h:PT w r T O) (hk:∀i,O i→w'.heap[i]? = w.heap[i]?) (hs:w.heap.size≤w'.heap.size):PT w' r T O:=by
 obtain ⟨gN,s,B,G,V,h⟩:=h
 exact ⟨gN,s,B,G,V,h.keep hk hs⟩
theorem PT.lt (h:PT w r T O) (i:Nat) (hi:O i):i<w.heap.size:=by
 obtain ⟨gN,s,B,G,V,h⟩:=h
 exact h.lt i hi
theorem dL.num (h:dL w r gN s T Z B G V O):dF T s:=h.map.num (f:=fun k _=>wp (B k))
theorem PT.oC (h:PT w r T O) {s:Nat}(hs:dF T s):Calls Tryz.prog 142 #[wp r] w fun e w'=>e=.returned (.int .i64 (s:Int))∧w'=w:=by
 obtain ⟨gN,s',B,G,V,h⟩:=h
 rw [hs.one h.num]
 exact h.oC
theorem PT.num (h:PT w r T O):∃s,dF T s:=by
 obtain ⟨gN,s,B,G,V,h⟩:=h
 exact ⟨s,h.num⟩
theorem RQ (b:Nat) (w:World):(binOp BinOp.eql 100 (wp b) (.pointer none)).run Tryz.prog w=.ok (.bool false) w:=by kernel_rfl
theorem WG (w:World):(binOp BinOp.eql 100 (.pointer none) (.pointer none)).run Tryz.prog w=.ok (.bool true) w:=by kernel_rfl
theorem dL.kI (h:dL w r gN s T Z B G V O) (n:Int) (hw:(Lit.int .i64 n).wf=true) (hz:bF T n≠0) :
 Calls Tryz.prog 234 #[wp r,.int .i64 n] w fun e w'=>e=.returned (.tuple #[.pointer none,eQ (bF T n)])∧w'=w:=by
 have c0:=h.c0
 have hlk:=h.look n hw
 cases hn:T n with
 |none=>
  have e:bF T n=7:=by unfold bF;rw [hn]
  rw [e]
  rw [hn] at hlk
  simp only [Option.isSome_none,Bool.false_eq_true,if_false] at hlk
  have h9:=WG
  go_enter Tryz.func234,Tryz.ntmps234
  go_wp2_with fail
  go_ret2
  exact ⟨rfl,rfl⟩
 |some nd=>
  cases nd with
  |dir C=>
   have e:bF T n=6:=by unfold bF;rw [hn]
   rw [e]
   rw [hn] at hlk
   simp only [Option.isSome_some,if_true] at hlk
   have h9:=RQ (B n)
   obtain ⟨n0,_⟩:=h.yK hn
   have QB:=rH n0
   go_enter Tryz.func234,Tryz.ntmps234
   go_wp2_with (go_at_call 237;refine QB.mono ?_;rintro e w' ⟨rfl,hw'⟩;subst w')
   go_ret2
   exact ⟨rfl,rfl⟩
  |file b x=>exact absurd (by unfold bF;rw [hn]) hz
theorem dL.nD (h:dL w r gN s T Z B G V O) (n:Int) (hw:(Lit.int .i64 n).wf=true) {b:List UInt8}{x:Nat}(hn:T n=some (.file b x)) :
 Calls Tryz.prog 234 #[wp r,.int .i64 n] w fun e w'=>e=.returned (.tuple #[wp (B n),.nilIface])∧w'=w:=by
 have c0:=h.c0
 have hlk:=h.look n hw
 rw [hn] at hlk
 simp only [Option.isSome_some,if_true] at hlk
 have h9:=RQ (B n)
 obtain ⟨n0,_⟩:=h.ql hn
 have QB:=u6 n0
 go_enter Tryz.func234,Tryz.ntmps234
 go_wp2_with (go_at_call 237;refine QB.mono ?_;rintro e w' ⟨rfl,hw'⟩;subst w')
 go_ret2
 exact ⟨rfl,rfl⟩
theorem Dat.len {v:Value}{b:List UInt8}(h:Dat w v b):∃a c,v=.slice a b.length c:=by
 rcases h with ⟨rfl,rfl⟩|⟨g,c,rfl,_⟩
 ·exact ⟨none,0,rfl⟩
 ·exact ⟨_,c,rfl⟩
end
inductive Tag
 |head
 |mp
 |gF (d:Int)
 |Vf (p:Int)
 |tree
structure QG where
 r:Nat
 gO:Nat
 K:Int→Option Int
 B:Int→Nat
 Q:Int→Nat
 dC:Nat→Option Tag
def pv (g:QG) (e:En):Value:=if e.kind=1 then .pointer none else wp (g.Q e.pipe)
abbrev kN (g:QG) (e:En) (c:Int):Array Value:=#[.int .i64 e.kind,.int .i64 e.af,.int .i64 c,.int .i64 e.node,.int .i64 e.pos,pv g e]
structure QF (w:World) (f:Nat) (D:DS) (g:QG) (n:Nat):Prop where
 head:w.heap[f]? = some (.cells #[wp g.r,.map (some g.gO)] 107)
 tree:∃O,PT w g.r D.T O∧∀i,O i→g.dC i=some .tree
 map:aK w g.gO n (fun k=>(g.K k).map (fun d=>wp (g.B d)))
 gF:∀d e,D.E d=some e→∃c,D.R d=some c∧w.heap[g.B d]? = some (.cells (kN g e c) 296)∧g.dC (g.B d)=some (.gF d)
 key:∀k d,g.K k=some d→(D.E d).isSome=true∧0<k∧k<100000
 has:∀d,(D.E d).isSome=true→∃k,g.K k=some d
 inj:∀k k' d,g.K k=some d→g.K k'=some d→k=k'
 pipe:∀p x,D.P p=some x→Tb w (g.Q p) x.2.1 x.2.2 x.1∧g.dC (g.Q p)=some (.Vf p)
 tf:g.dC f=some .head
 tm:g.dC g.gO=some .mp
 lt:∀i,(g.dC i).isSome=true→i<w.heap.size
structure dM (w:World) (b:Nat) (g:QG) (M N:Ns):Prop where
 tab:QT w b M
 off:g.dC b=none
 len:N.length=8
 rel:∀i (h:i<M.length) (h':i<N.length),N[i].2=M[i].2∧((M[i].1=0∧N[i].1=0)∨(0<N[i].1∧g.K M[i].1=some N[i].1))
structure Ext (w:World) (D':DS) (g g':QG):Prop where
 dC:∀i,i<w.heap.size→g'.dC i=g.dC i
 key:∀k d,g.K k=some d→(D'.E d).isSome=true→g'.K k=some d
 r:g'.r=g.r
structure dG (w w':World) (f:Nat) (D':DS) (g:QG) (b:Nat) (N':Ns):Prop where
 ex:∃g' n' M',QF w' f D' g' n'∧dM w' b g' M' N'∧Ext w D' g g'
 wt:Wt (fun i=>(g.dC i).isSome=true∨i=b) w w'
theorem oZ {κ:Nat→Option Tag} {i j:Nat}{s t:Tag}(hi:κ i=some s) (hj:κ j=some t) (h:s≠t):i≠j:=fun e=>h (by rw [e] at hi;exact Option.some.inj (hi.symm.trans hj))
section
variable {w w' w2:World}{f b n:Nat}{D D':DS}{g g':QG}{M N N':Ns}{d k:Int}{e:En}
theorem Ext.refl (w:World) (D:DS) (g:QG):Ext w D g g:=⟨fun _ _=>rfl,fun _ _ h _=>h,rfl⟩
theorem QF.k0 (h:QF w f D g n):g.K 0=none:=by
 cases e:g.K 0 with
 |none=>rfl
 |some d=>have:=(h.key 0 d e).2.1;omega
theorem QF.keep (h:QF w f D g n) (hk:∀i,(g.dC i).isSome=true→w'.heap[i]? = w.heap[i]?) (hs:w.heap.size≤w'.heap.size):QF w' f D g n:=by
 have ht:∀ {i t},g.dC i=some t→w'.heap[i]? = w.heap[i]? := fun {i t} e=>hk i (by rw [e];rfl)
 obtain ⟨O,p,hO⟩:=h.tree
 refine ⟨(ht h.tf).trans h.head,⟨O,p.keep (fun i hi=>ht (hO i hi)) hs,hO⟩,h.map.keep (ht h.tm),fun d e he=>?_,h.key,h.has,h.inj,fun p x hp=>?_,h.tf,h.tm,fun i hi=>Nat.lt_of_lt_of_le (h.lt i hi) hs⟩
 ·obtain ⟨c,h1,h2,h3⟩:=h.gF d e he
  exact ⟨c,h1,(ht h3).trans h2,h3⟩
 ·obtain ⟨h1,h2⟩:=h.pipe p x hp
  exact ⟨h1.keep (ht h2),h2⟩
theorem QF.below (h:QF w f D g n) (hb:Below w.heap.size w w'):QF w' f D g n:=h.keep (fun i hi=>hb.block i (h.lt i hi)) hb.size
theorem dM.keep (h:dM w b g M N) (hk:w'.heap[b]? = w.heap[b]?):dM w' b g M N:=⟨h.tab.keep hk,h.off,h.len,h.rel⟩
theorem dM.below (h:dM w b g M N) (hb:Below w.heap.size w w'):dM w' b g M N:=h.keep (hb.block b h.tab.lt)
theorem dM.other (h:dM w b g M N) (hx:Ext w D' g g') (hk:w'.heap[b]? = w.heap[b]?) (hE:∀i (hi:i<N.length),0<N[i].1→(D'.E N[i].1).isSome=true):dM w' b g' M N:=by
 refine ⟨h.tab.keep hk,(hx.dC b h.tab.lt).trans h.off,h.len,fun i h1 h2=>?_⟩
 obtain ⟨a,c⟩:=h.rel i h1 h2
 refine ⟨a,?_⟩
 rcases c with c|⟨c1,c2⟩
 ·exact .inl c
 ·exact .inr ⟨c1,hx.key _ _ c2 (hE i h2 c1)⟩
theorem QF.cells (h:QF w f D g n):w.cell? ⟨f,0,none⟩=some (wp g.r)∧w.cell? ⟨f,1,none⟩=some (.map (some g.gO)):=
 ⟨by rw [cell_of_row _ _ _ _ _ _ h.head];rfl,by rw [cell_of_row _ _ _ _ _ _ h.head];rfl⟩
theorem QF.lU (h:QF w f D g n) (he:D.E d=some e) {c:Int}(hc:D.R d=some c):w.cell? ⟨g.B d,0,none⟩=some (.int .i64 e.kind)∧w.cell? ⟨g.B d,1,none⟩=some (.int .i64 e.af)∧w.cell? ⟨g.B d,2,none⟩=some (.int .i64 c)∧w.cell? ⟨g.B d,3,none⟩=some (.int .i64 e.node)∧w.cell? ⟨g.B d,4,none⟩=some (.int .i64 e.pos)∧w.cell? ⟨g.B d,5,none⟩=some (pv g e)∧∀o,w.frozen? ⟨g.B d,o,none⟩=false:=by
 obtain ⟨c',h1,h2,_⟩:=h.gF d e he
 rw [hc] at h1
 obtain rfl:=Option.some.inj h1
 refine ⟨?_,?_,?_,?_,?_,?_,fun o=>by simp [World.frozen?,h2]⟩<;>(rw [cell_of_row _ _ _ _ _ _ h2];rfl)
theorem Sl (w:World):(zeroValue 272).run Tryz.prog w=.ok (.pointer none) w:=by kernel_rfl
def gv (g:QG) (k:Int):Value:=match g.K k with
 |some d=>wp (g.B d)
 |none=>.pointer none
theorem uO (h:g.K k=some d):gv g k=wp (g.B d):=by unfold gv;rw [h]
theorem Et (h:g.K k=none):gv g k=.pointer none:=by unfold gv;rw [h]
theorem QF.look (h:QF w f D g n) {k:Int}(h0:0≤k) (h1:k<100000):(Instr.lookup 105 (.map (some g.gO)) (.int .i64 k) false).run Tryz.prog w=.ok (gv g k) w:=by
 rw [h.map.look Tryz.underlying105 (Sl _) k (gU h0 (by omega))]
 unfold gv
 cases g.K k<;>rfl
theorem QF.cell (h:QF w f D g n) (he:D.E d=some e) (e':En) (c':Int) (hw:w'.heap[g.B d]? = some (.cells (kN g e' c') 296)) (hg:w.grownBy w' (some (g.B d))) :
 QF w' f { D with E:=fun i=>if i=d then some e' else D.E i,R:=fun i=>if i=d then some c' else D.R i } g n:=by
 obtain ⟨c,h1,h2,h3⟩:=h.gF d e he
 have hk:∀ {i t},g.dC i=some t→t≠.gF d→w'.heap[i]? = w.heap[i]? := fun {i t} ei ht=>hg.block i (h.lt i (by rw [ei];rfl)) (fun x=>oZ ei h3 ht (Option.some.inj x))
 obtain ⟨O,p,hO⟩:=h.tree
 have hs:∀x,(if x=d then some e' else D.E x).isSome=(D.E x).isSome:=fun x=>by
  by_cases ex:x=d
  ·rw [if_pos ex,ex,he];rfl
  ·rw [if_neg ex]
 refine ⟨(hk h.tf (by simp)).trans h.head,⟨O,p.keep (fun i hi=>hk (hO i hi) (by simp)) hg.size,hO⟩,h.map.keep (hk h.tm (by simp)),fun x ex hx=>?_,fun k x hx=>?_,fun x hx=>h.has x (by rw [←hs x];exact hx),h.inj,fun p x hp=>?_,h.tf,h.tm,fun i hi=>Nat.lt_of_lt_of_le (h.lt i hi) hg.size⟩
 ·have hx':(if x=d then some e' else D.E x)=some ex:=hx
  by_cases e1:x=d
  ·subst e1
   rw [if_pos rfl] at hx'
   obtain rfl:=Option.some.inj hx'
   exact ⟨c',if_pos rfl,hw,h3⟩
  ·rw [if_neg e1] at hx'
   obtain ⟨c1,a1,a2,a3⟩:=h.gF x ex hx'
   exact ⟨c1,(if_neg e1).trans a1,(hk a3 (fun q=>e1 (by injection q))).trans a2,a3⟩
 ·obtain ⟨a,c⟩:=h.key k x hx
  exact ⟨by show (if x=d then some e' else D.E x).isSome=true;rw [hs];exact a,c⟩
 ·obtain ⟨a1,a2⟩:=h.pipe p x hp
  exact ⟨a1.keep (hk a2 (by simp)),a2⟩
theorem QF.afk (h:QF w f D g n) (he:D.E d=some e) (c':Int) (hw:w'.heap[g.B d]? = some (.cells (kN g e c') 296)) (hg:w.grownBy w' (some (g.B d))) :
 QF w' f { D with R:=fun i=>if i=d then some c' else D.R i } g n:=by
 have:=h.cell he e c' hw hg
 have hE:(fun i=>if i=d then some e else D.E i)=D.E:=by
  funext i
  by_cases ei:i=d
  ·rw [if_pos ei,ei,he]
  ·rw [if_neg ei]
 rw [hE] at this
 exact this
theorem QF.QV (h:QF w f D g n) (he:D.E d=some e) {c:Int}(hc:D.R d=some c) (e':En) (hw:w'.heap[g.B d]? = some (.cells (kN g e' c) 296)) (hg:w.grownBy w' (some (g.B d))) :
 QF w' f { D with E:=fun i=>if i=d then some e' else D.E i } g n:=by
 have:=h.cell he e' c hw hg
 have hE:(fun i=>if i=d then some c else D.R i)=D.R:=by
  funext i
  by_cases ei:i=d
  ·rw [if_pos ei,ei,hc]
  ·rw [if_neg ei]
 rw [hE] at this
 exact this
theorem QT.put (h:QT w b M) {i:Nat}(hi:i<8) (x:Int×Bool) (hx:0≤x.1∧x.1<100000∧(x.1=0→x.2=false)):QT ((w.setCell ⟨b,i*2,none⟩ (.int .i64 x.1)).setCell ⟨b,i*2+1,none⟩ (.bool x.2)) b (M.set i x):=by
 refine ⟨?_,by rw [List.length_set];exact h.len,fun y hy=>?_⟩
 ·have h1:=aS w b (i*2) (.int .i64 x.1) _ _ _ h.blk
  have h2:=aS _ b (i*2+1) (.bool x.2) _ _ _ h1
  rw [h2,←Jt M i x (by rw [h.len];exact hi),Nat.mul_comm]
  simp
 ·rcases List.mem_or_eq_of_mem_set hy with h1|h1
  ·exact h.pos y h1
  ·rw [h1];exact hx
theorem QT.mark (h:QT w b M) {i:Nat}(hi:i<8) (c:Bool) (hc:(M[i]'(by rw [h.len];exact hi)).1≠0):QT (w.setCell ⟨b,i*2+1,none⟩ (.bool c)) b (M.set i ((M[i]'(by rw [h.len];exact hi)).1,c)):=by
 have aG:i<M.length:=by rw [h.len];exact hi
 refine ⟨?_,by rw [List.length_set];exact h.len,fun y hy=>?_⟩
 ·have h2:=aS w b (i*2+1) (.bool c) _ _ _ h.blk
  rw [h2,←Jt M i (M[i].1,c) aG,Nat.mul_comm]
  have e:(nv M).set (2*i) (.int .i64 M[i].1)=nv M:=by
   obtain ⟨e1,_⟩:=Rf M i aG
   obtain ⟨hl,he⟩:=List.getElem?_eq_some_iff.1 e1
   rw [←he,List.set_getElem_self]
  simp [e]
 ·rcases List.mem_or_eq_of_mem_set hy with h1|h1
  ·exact h.pos y h1
  ·rw [h1];exact ⟨(h.nn aG).1,(h.nn aG).2.1,fun e=>absurd e hc⟩
theorem dM.set (h:dM w b g M N) {i:Nat}(x y:Int×Bool) (hT:QT w' b (M.set i x)) (hxy:y.2=x.2∧((x.1=0∧y.1=0)∨(0<y.1∧g.K x.1=some y.1))):dM w' b g (M.set i x) (N.set i y):=by
 refine ⟨hT,h.off,by rw [List.length_set];exact h.len,fun j h1 h2=>?_⟩
 rw [List.length_set] at h1 h2
 by_cases e:i=j
 ·subst e
  simp only [List.getElem_set_self]
  exact hxy
 ·rw [List.getElem_set_ne e,List.getElem_set_ne e]
  exact h.rel j h1 h2
end
section
variable {w w' w2:World}{f b n:Nat}{D D':DS}{g g':QG}{M N N':Ns}{d k:Int}{e:En}
theorem QF.gone (h:QF w f D g n) (hk:g.K k=some d) {n':Nat}(pm:aK w' g.gO n' (fun i=>if i=k then none else (g.K i).map (fun d=>wp (g.B d)))) (hg:w.grownBy w' (some g.gO)) :
 QF w' f { D with E:=fun i=>if i=d then none else D.E i,R:=fun i=>if i=d then none else D.R i } { g with K:=fun i=>if i=k then none else g.K i } n':=by
 have hh:∀ {i t},g.dC i=some t→t≠.mp→w'.heap[i]? = w.heap[i]? := fun {i t} ei ht=>hg.block i (h.lt i (by rw [ei];rfl)) (fun x=>oZ ei h.tm ht (Option.some.inj x))
 obtain ⟨O,p,hO⟩:=h.tree
 have hpm:aK w' g.gO n' (fun i=>(if i=k then none else g.K i).map (fun d=>wp (g.B d))):=by
  have e2:(fun i=>(if i=k then none else g.K i).map (fun d=>wp (g.B d)))=fun i=>if i=k then none else (g.K i).map (fun d=>wp (g.B d)):=by
   funext i;split<;>rfl
  rw [e2];exact pm
 refine ⟨(hh h.tf (by simp)).trans h.head,⟨O,p.keep (fun i hi=>hh (hO i hi) (by simp)) hg.size,hO⟩,hpm,fun x ex hx=>?_,fun i x hx=>?_,fun x hx=>?_,fun i j x hi hj=>?_,fun p x hp=>?_,h.tf,h.tm,fun i hi=>Nat.lt_of_lt_of_le (h.lt i hi) hg.size⟩
 ·have hx':(if x=d then none else D.E x)=some ex:=hx
  by_cases e1:x=d
  ·rw [if_pos e1] at hx';cases hx'
  ·rw [if_neg e1] at hx'
   obtain ⟨c1,a1,a2,a3⟩:=h.gF x ex hx'
   exact ⟨c1,(if_neg e1).trans a1,(hh a3 (by simp)).trans a2,a3⟩
 ·have hx':(if i=k then none else g.K i)=some x:=hx
  by_cases e1:i=k
  ·rw [if_pos e1] at hx';cases hx'
  ·rw [if_neg e1] at hx'
   obtain ⟨a,c⟩:=h.key i x hx'
   refine ⟨?_,c⟩
   show (if x=d then none else D.E x).isSome=true
   rw [if_neg (fun e9=>e1 (h.inj i k d (by rw [←e9];exact hx') hk))]
   exact a
 ·have hx':(if x=d then none else D.E x).isSome=true:=hx
  by_cases e1:x=d
  ·rw [if_pos e1] at hx';cases hx'
  ·rw [if_neg e1] at hx'
   obtain ⟨i,hi⟩:=h.has x hx'
   refine ⟨i,?_⟩
   show (if i=k then none else g.K i)=some x
   rw [if_neg (fun e9=>e1 (by rw [e9,hk] at hi;exact (Option.some.inj hi).symm))]
   exact hi
 ·have hi':(if i=k then none else g.K i)=some x:=hi
  have hj':(if j=k then none else g.K j)=some x:=hj
  by_cases e1:i=k
  ·rw [if_pos e1] at hi';cases hi'
  ·by_cases e2:j=k
   ·rw [if_pos e2] at hj';cases hj'
   ·rw [if_neg e1] at hi'
    rw [if_neg e2] at hj'
    exact h.inj i j x hi' hj'
 ·obtain ⟨a1,a2⟩:=h.pipe p x hp
  exact ⟨a1.keep (hh a2 (by simp)),a2⟩
theorem QF.turn (h:QF w f D g n) {O O':Nat→Prop}{T':Wd}(hO:∀i,O i→g.dC i=some .tree) (p:PT w' g.r T' O') (st:Stp w w' O O') :
 ∃g',QF w' f { D with T:=T' } g' n∧(∀i,i<w.heap.size→g'.dC i=g.dC i)∧g'.K=g.K∧g'.r=g.r∧g'.B=g.B:=by
 classical
 have hh:∀ {i t},g.dC i=some t→t≠.tree→w'.heap[i]? = w.heap[i]? := fun {i t} ei ht=>st.wt.block i (h.lt i (by rw [ei];rfl)) (fun o=>oZ ei (hO i o) ht rfl)
 have hlt:∀ {i t},g.dC i=some t→(if i<w.heap.size then g.dC i else if O' i then some Tag.tree else none)=some t:=fun {i t} ei=>by
  rw [if_pos (h.lt i (by rw [ei];rfl))];exact ei
 refine ⟨{ g with dC:=fun i=>if i<w.heap.size then g.dC i else if O' i then some .tree else none },⟨(hh h.tf (by simp)).trans h.head,⟨O',p,fun i hi=>?_⟩,h.map.keep (hh h.tm (by simp)),fun x ex hx=>?_,h.key,h.has,h.inj,fun p x hp=>?_,hlt h.tf,hlt h.tm,fun i hi=>?_⟩,fun i hi=>if_pos hi,rfl,rfl,rfl⟩
 ·show (if i<w.heap.size then g.dC i else if O' i then some Tag.tree else none)=some Tag.tree
  rcases st.own i hi with o|o
  ·exact hlt (hO i o)
  ·rw [if_neg (by omega),if_pos hi]
 ·obtain ⟨c1,a1,a2,a3⟩:=h.gF x ex hx
  exact ⟨c1,a1,(hh a3 (by simp)).trans a2,hlt a3⟩
 ·obtain ⟨a1,a2⟩:=h.pipe p x hp
  exact ⟨a1.keep (hh a2 (by simp)),hlt a2⟩
 ·have hi':(if i<w.heap.size then g.dC i else if O' i then some Tag.tree else none).isSome=true:=hi
  by_cases e1:i<w.heap.size
  ·exact Nat.lt_of_lt_of_le e1 st.wt.size
  ·rw [if_neg e1] at hi'
   by_cases e2:O' i
   ·exact p.lt i e2
   ·rw [if_neg e2] at hi';cases hi'
theorem QF.piped (h:QF w f D g n) {p:Int}{x:Pi}(hp:D.P p=some x) {x':Pi}(ht:Tb w' (g.Q p) x'.2.1 x'.2.2 x'.1) (hg:w.grownBy w' (some (g.Q p))) :
 QF w' f { D with P:=fun i=>if i=p then some x' else D.P i } g n:=by
 obtain ⟨h1,h2⟩:=h.pipe p x hp
 have hh:∀ {i t},g.dC i=some t→t≠.Vf p→w'.heap[i]? = w.heap[i]? := fun {i t} ei ht=>hg.block i (h.lt i (by rw [ei];rfl)) (fun x=>oZ ei h2 ht (Option.some.inj x))
 obtain ⟨O,q,hO⟩:=h.tree
 refine ⟨(hh h.tf (by simp)).trans h.head,⟨O,q.keep (fun i hi=>hh (hO i hi) (by simp)) hg.size,hO⟩,h.map.keep (hh h.tm (by simp)),fun y ey hy=>?_,h.key,h.has,h.inj,fun q y hq=>?_,h.tf,h.tm,fun i hi=>Nat.lt_of_lt_of_le (h.lt i hi) hg.size⟩
 ·obtain ⟨c1,a1,a2,a3⟩:=h.gF y ey hy
  exact ⟨c1,a1,(hh a3 (by simp)).trans a2,a3⟩
 ·have hq':(if q=p then some x' else D.P q)=some y:=hq
  by_cases e1:q=p
  ·subst e1
   rw [if_pos rfl] at hq'
   obtain rfl:=Option.some.inj hq'
   exact ⟨ht,h2⟩
  ·rw [if_neg e1] at hq'
   obtain ⟨a1,a2⟩:=h.pipe q y hq'
   exact ⟨a1.keep (hh a2 (fun z=>e1 (by injection z))),a2⟩
theorem QF.Xj (h:QF w f D g n) {q:Nat}{p:Int}(hq:w.heap.size≤q) (hq':q<w'.heap.size) (hb:Below w.heap.size w w') (hp:D.P p=none) (hE:∀d e,D.E d=some e→e.pipe≠p∨e.kind=1) {x:Pi}(ht:Tb w' q x.2.1 x.2.2 x.1) (z:Int) :
 ∃g',QF w' f { D with P:=fun i=>if i=p then some x else D.P i,nx:=z } g' n∧(∀i,i<w.heap.size→g'.dC i=g.dC i)∧g'.K=g.K∧g'.r=g.r∧g'.Q p=q:=by
 have h':=h.below hb
 have hlt:∀ {i t},g.dC i=some t→(if i=q then some (Tag.Vf p) else g.dC i)=some t:=fun {i t} ei=>by
  have:=h.lt i (by rw [ei];rfl)
  rw [if_neg (by omega)];exact ei
 obtain ⟨O,o1,hO⟩:=h'.tree
 refine ⟨{ g with Q:=fun i=>if i=p then q else g.Q i,dC:=fun i=>if i=q then some (.Vf p) else g.dC i },⟨h'.head,⟨O,o1,fun i hi=>hlt (hO i hi)⟩,h'.map,fun y ey hy=>?_,h.key,h.has,h.inj,fun i y hi=>?_,hlt h.tf,hlt h.tm,fun i hi=>?_⟩,fun i hi=>if_neg (by omega),rfl,rfl,if_pos rfl⟩
 ·obtain ⟨c1,a1,a2,a3⟩:=h'.gF y ey hy
  refine ⟨c1,a1,?_,hlt a3⟩
  have hpv:pv { g with Q:=fun i=>if i=p then q else g.Q i,dC:=fun i=>if i=q then some (.Vf p) else g.dC i } ey=pv g ey:=by
   unfold pv
   rcases hE y ey hy with e1|e1
   ·simp only [if_neg e1]
   ·rw [if_pos e1,if_pos e1]
  show w'.heap[g.B y]? = _
  rw [a2,kN,kN,hpv]
 ·have hi':(if i=p then some x else D.P i)=some y:=hi
  by_cases e1:i=p
  ·subst e1
   rw [if_pos rfl] at hi'
   obtain rfl:=Option.some.inj hi'
   have eq:(if i=i then q else g.Q i)=q:=if_pos rfl
   show Tb w' (if i=i then q else g.Q i) x.2.1 x.2.2 x.1∧(if (if i=i then q else g.Q i)=q then some (Tag.Vf i) else g.dC (if i=i then q else g.Q i))=some (Tag.Vf i)
   rw [eq,if_pos rfl]
   exact ⟨ht,rfl⟩
  ·rw [if_neg e1] at hi'
   obtain ⟨a1,a2⟩:=h'.pipe i y hi'
   show Tb w' (if i=p then q else g.Q i) y.2.1 y.2.2 y.1∧(if (if i=p then q else g.Q i)=q then some (Tag.Vf p) else g.dC (if i=p then q else g.Q i))=some (Tag.Vf i)
   rw [if_neg e1]
   exact ⟨a1,hlt a2⟩
 ·have hi':(if i=q then some (Tag.Vf p) else g.dC i).isSome=true:=hi
  by_cases e1:i=q
  ·omega
  ·rw [if_neg e1] at hi'
   exact h'.lt i hi'
def Jc (D:DS) (e:En):DS:={ D with E:=fun i=>if i=D.nx+1 then some e else D.E i,R:=fun i=>if i=D.nx+1 then some 0 else D.R i,nx:=D.nx+1 }
theorem QF.aaM (h:QF w f D g n) {q:Nat}(hq:w.heap.size≤q) (hb:Below w.heap.size w w') (hE:D.E (D.nx+1)=none) (hk:g.K k=none) (hk0:0<k) (hk1:k<100000) (hw:w'.heap[q]? = some (.cells (kN g e 0) 296)) (pm:aK w2 g.gO (n+1) (fun i=>if i=k then some (wp q) else (g.K i).map (fun d=>wp (g.B d)))) (hg:w'.grownBy w2 (some g.gO)) :
 ∃g',QF w2 f (Jc D e) g' (n+1)∧(∀i,i<w.heap.size→g'.dC i=g.dC i)∧(g'.K=fun i=>if i=k then some (D.nx+1) else g.K i)∧g'.r=g.r∧g'.B (D.nx+1)=q∧g'.gO=g.gO∧g'.Q=g.Q:=by
 have h':=h.below hb
 have hql:q<w'.heap.size:=(Array.getElem?_eq_some_iff.1 hw).1
 have hlt:∀ {i t},g.dC i=some t→(if i=q then some (Tag.gF (D.nx+1)) else g.dC i)=some t:=fun {i t} ei=>by
  have:=h.lt i (by rw [ei];rfl)
  rw [if_neg (by omega)];exact ei
 have hh:∀ {i t},g.dC i=some t→t≠.mp→w2.heap[i]? = w'.heap[i]? := fun {i t} ei ht=>hg.block i (h'.lt i (by rw [ei];rfl)) (fun x=>oZ ei h.tm ht (Option.some.inj x))
 have hqm:q≠g.gO:=fun e=>by have:=h.lt g.gO (by rw [h.tm];rfl);omega
 obtain ⟨O,o1,hO⟩:=h'.tree
 have hKE:∀i x,g.K i=some x→x≠D.nx+1:=fun i x hx e=>by
  have:=(h.key i x hx).1
  rw [e,hE] at this;cases this
 have hpm:aK w2 g.gO (n+1) (fun i=>(if i=k then some (D.nx+1) else g.K i).map (fun d=>wp (if d=D.nx+1 then q else g.B d))):=by
  have e2:(fun i=>(if i=k then some (D.nx+1) else g.K i).map (fun d=>wp (if d=D.nx+1 then q else g.B d)))=fun i=>if i=k then some (wp q) else (g.K i).map (fun d=>wp (g.B d)):=by
   funext i
   by_cases ei:i=k
   ·rw [if_pos ei,if_pos ei];simp
   ·rw [if_neg ei,if_neg ei]
    cases hK:g.K i with
    |none=>rfl
    |some x=>simp [hKE i x hK]
  rw [e2];exact pm
 refine ⟨{ g with K:=fun i=>if i=k then some (D.nx+1) else g.K i,B:=fun d=>if d=D.nx+1 then q else g.B d,dC:=fun i=>if i=q then some (.gF (D.nx+1)) else g.dC i },⟨(hh h.tf (by simp)).trans h'.head,⟨O,o1.keep (fun i hi=>hh (hO i hi) (by simp)) hg.size,fun i hi=>hlt (hO i hi)⟩,hpm,fun y ey hy=>?_,fun i y hi=>?_,fun y hy=>?_,fun i j y hi hj=>?_,fun p x hp=>?_,hlt h.tf,hlt h.tm,fun i hi=>?_⟩,fun i hi=>if_neg (by omega),rfl,rfl,if_pos rfl,rfl,rfl⟩
 ·have hy':(if y=D.nx+1 then some e else D.E y)=some ey:=hy
  by_cases e1:y=D.nx+1
  ·rw [if_pos e1] at hy'
   obtain rfl:=Option.some.inj hy'
   refine ⟨0,if_pos e1,?_,?_⟩
   ·show w2.heap[if y=D.nx+1 then q else g.B y]? = _
    rw [if_pos e1,hg.block q hql (fun x=>hqm (Option.some.inj x)),hw]
    rfl
   ·show (if (if y=D.nx+1 then q else g.B y)=q then some (Tag.gF (D.nx+1)) else g.dC (if y=D.nx+1 then q else g.B y))=some (Tag.gF y)
    rw [if_pos e1,if_pos rfl,e1]
  ·rw [if_neg e1] at hy'
   obtain ⟨c1,a1,a2,a3⟩:=h'.gF y ey hy'
   refine ⟨c1,(if_neg e1).trans a1,?_,?_⟩
   ·show w2.heap[if y=D.nx+1 then q else g.B y]? = _
    rw [if_neg e1,hh a3 (by simp),a2]
    rfl
   ·show (if (if y=D.nx+1 then q else g.B y)=q then some (Tag.gF (D.nx+1)) else g.dC (if y=D.nx+1 then q else g.B y))=some (Tag.gF y)
    rw [if_neg e1]
    exact hlt a3
 ·have hi':(if i=k then some (D.nx+1) else g.K i)=some y:=hi
  show (if y=D.nx+1 then some e else D.E y).isSome=true∧0<i∧i<100000
  by_cases e1:i=k
  ·rw [if_pos e1] at hi'
   obtain rfl:=Option.some.inj hi'
   rw [if_pos rfl,e1]
   exact ⟨rfl,hk0,hk1⟩
  ·rw [if_neg e1] at hi'
   rw [if_neg (hKE i y hi')]
   exact h.key i y hi'
 ·have hy':(if y=D.nx+1 then some e else D.E y).isSome=true:=hy
  by_cases e1:y=D.nx+1
  ·exact ⟨k,by show (if k=k then some (D.nx+1) else g.K k)=some y;rw [if_pos rfl,e1]⟩
  ·rw [if_neg e1] at hy'
   obtain ⟨i,hi⟩:=h.has y hy'
   refine ⟨i,?_⟩
   show (if i=k then some (D.nx+1) else g.K i)=some y
   rw [if_neg (fun e9=>by rw [e9,hk] at hi;cases hi)]
   exact hi
 ·have hi':(if i=k then some (D.nx+1) else g.K i)=some y:=hi
  have hj':(if j=k then some (D.nx+1) else g.K j)=some y:=hj
  by_cases e1:i=k
  ·by_cases e2:j=k
   ·rw [e1,e2]
   ·rw [if_pos e1] at hi'
    rw [if_neg e2] at hj'
    exact absurd (Option.some.inj hi').symm (hKE j y hj')
  ·by_cases e2:j=k
   ·rw [if_neg e1] at hi'
    rw [if_pos e2] at hj'
    exact absurd (Option.some.inj hj').symm (hKE i y hi')
   ·rw [if_neg e1] at hi'
    rw [if_neg e2] at hj'
    exact h.inj i j y hi' hj'
 ·obtain ⟨a1,a2⟩:=h'.pipe p x hp
  exact ⟨a1.keep (hh a2 (by simp)),hlt a2⟩
 ·have hi':(if i=q then some (Tag.gF (D.nx+1)) else g.dC i).isSome=true:=hi
  by_cases e1:i=q
  ·have:=hg.size;omega
  ·rw [if_neg e1] at hi'
   exact Nat.lt_of_lt_of_le (h'.lt i hi') hg.size
end
theorem Hf:∀ {M N:Ns},M.length=N.length→(∀i (h:i<M.length) (h':i<N.length),(0<M[i].1↔0<N[i].1)∧(M[i].1=0↔N[i].1=0))→ak M=ak N∧ai M=ai N
 | [],[],_,_=>⟨rfl,rfl⟩
 | [],_ :: _,h,_=>by simp at h
 |_ :: _,[],h,_=>by simp at h
 |x :: M,y :: N,h,k=>by
  obtain ⟨h1,h2⟩:=Hf (M:=M) (N:=N) (by simpa using h) (fun i hi hi'=>k (i+1) (by simpa using hi) (by simpa using hi'))
  obtain ⟨k1,k2⟩:=k 0 (by simp) (by simp)
  simp only [List.getElem_cons_zero] at k1 k2
  constructor
  ·unfold ak at h1 ⊢
   by_cases e:0<x.1
   ·rw [List.filter_cons_of_pos (by simpa using e),List.filter_cons_of_pos (by simpa using k1.1 e),List.length_cons,List.length_cons,h1]
   ·rw [List.filter_cons_of_neg (by simpa using e),List.filter_cons_of_neg (by simpa using fun z=>e (k1.2 z)),h1]
  ·rw [ai,ai,h2]
   by_cases e:x.1=0
   ·rw [if_pos e,if_pos (k2.1 e)]
   ·rw [if_neg e,if_neg (fun z=>e (k2.2 z))]
section
variable {w w' w2:World}{f b n:Nat}{D D':DS}{g g':QG}{M N N':Ns}{d k:Int}{e:En}
theorem dM.pos (t:dM w b g M N) (h:QF w f D g n) (i:Nat) (h1:i<M.length) (h2:i<N.length):(0<M[i].1↔0<N[i].1)∧(M[i].1=0↔N[i].1=0):=by
 rcases (t.rel i h1 h2).2 with ⟨a,c⟩|⟨a,c⟩
 ·rw [a,c];simp
 ·have:=(h.key _ _ c).2.1
  omega
theorem dM.afp (t:dM w b g M N) (i:Nat) (hi:i<N.length):0≤N[i].1:=by
 rcases (t.rel i (by rw [t.tab.len];have:=t.len;omega) hi).2 with ⟨_,c⟩|⟨c,_⟩
 ·omega
 ·omega
theorem dM.eqs (t:dM w b g M N) (h:QF w f D g n):ak M=ak N∧ai M=ai N:=Hf (t.tab.len.trans t.len.symm) (t.pos h)
theorem dM.Zk (t:dM w b g M N) (h:QF w f D g n) (x:Int):aJ M x=aJ N x:=by
 by_cases hx:0≤x∧x≤7
 ·obtain ⟨i,rfl⟩:∃i:Nat,x=i:=⟨x.toNat,by omega⟩
  have h1:i<M.length:=by have:=t.tab.len;omega
  have h2:i<N.length:=by have:=t.len;omega
  have hp:=(t.pos h i h1 h2).1
  unfold aJ
  rw [getD_in h1,getD_in h2]
  by_cases e:0<M[i].1
  ·simp [e,hp.1 e]
  ·simp [e,show ¬0<N[i].1 from fun z=>e (hp.2 z)]
 ·unfold aJ
  have hb:(decide (0≤x) && decide (x≤7))=false:=by
   simp only [Bool.and_eq_false_iff,decide_eq_false_iff_not];omega
  rw [hb];rfl
theorem dM.keyOf (t:dM w b g M N) {i:Nat}(h1:i<M.length) (h2:i<N.length) (h0:0<N[i].1):g.K M[i].1=some N[i].1:=by
 rcases (t.rel i h1 h2).2 with ⟨a,c⟩|⟨a,c⟩
 ·omega
 ·exact c
theorem dM.xZ (t:dM w b g M N) (h:QF w f D g n):Calls Tryz.prog 145 #[wp b] w fun e w'=>e=.returned (.int .i64 (ak N:Int))∧Below w.heap.size w w':=by
 rw [← (t.eqs h).1];exact t.tab.xZ
theorem dM.JA (t:dM w b g M N) (h:QF w f D g n) (x:Int):Calls Tryz.prog 153 #[wp f,wp b,.int .i64 x] w fun e w'=>e=.returned (.bool (aJ N x))∧Below w.heap.size w w':=by
 rw [←t.Zk h x];exact t.tab.JA f x
theorem sN (b:Nat) (w:World):(binOp BinOp.eql 56 (wp b) (.pointer none)).run Tryz.prog w=.ok (.bool false) w:=by kernel_rfl
theorem DU (b:Nat) (w:World):(binOp BinOp.eql 272 (wp b) (.pointer none)).run Tryz.prog w=.ok (.bool false) w:=by kernel_rfl
theorem Ez (w:World):(binOp BinOp.eql 272 (.pointer none) (.pointer none)).run Tryz.prog w=.ok (.bool true) w:=by kernel_rfl
theorem OW (X:Int) (Y:Bool) (w:World):(Instr.field 113 (.agg #[.int .i64 X,.bool Y]) 0).run Tryz.prog w=.ok (.int .i64 X) w:=by kernel_rfl
theorem zC (X:Int) (Y:Bool) (w:World):(Instr.field 113 (.agg #[.int .i64 X,.bool Y]) 1).run Tryz.prog w=.ok (.bool Y) w:=by kernel_rfl
theorem QF.GU (h:QF w f D g n) (t:QT w b M) (x:Int) (v:Value) (hv:gv g (IY M x).1=v) (hat:0≤(IY M x).1∧(IY M x).1<100000) (z:Bool) (hz:(∃q,v=wp q∧z=false)∨(v=.pointer none∧z=true)) :
 Calls Tryz.prog 219 #[wp f,wp b,.int .i64 x] w fun e w'=>e=.returned (.tuple (if z=true then #[.pointer none,eQ 7] else #[v,.nilIface]))∧Below w.heap.size w w':=by
 have hA:∀V,Below w.heap.size w V→Calls Tryz.prog 215 #[wp b,.int .i64 x] V fun e w'=>e=.returned (nuv (IY M x))∧Below w.heap.size w w'∧w'.cell? ⟨f,1,none⟩=some (.map (some g.gO))∧(Instr.lookup 105 (.map (some g.gO)) (.int .i64 (IY M x).1) false).run Tryz.prog w'=.ok v w':=fun V hV=>by
  refine ((t.below hV).xw x).mono ?_
  rintro e w1 ⟨rfl,b1⟩
  have b2:=hV.trans (b1.mono hV.size)
  refine ⟨rfl,b2,(h.below b2).cells.2,?_⟩
  rw [(h.below b2).look hat.1 hat.2,hv]
 have c1:=h.cells.2
 have h9:=sN f
 generalize IY M x=y at *
 obtain ⟨X,Y⟩:=y
 simp only [nuv] at hA
 have hfl:=OW X Y
 have HZ:Aside ((∃q,v=wp q∧z=false)∨(v=.pointer none∧z=true)):=hz
 have hen:=DU
 have hel:=Ez
 go_enter Tryz.func219,Tryz.ntmps219
 go_upto_region 3 with fail
 go_region_held3 (fun w'=>w'.cell? ⟨f,1,none⟩=some (.map (some g.gO))) (first|exact c1|exact c2) (first
  |(go_at_call 215;refine (hA _ ⟨by rfl,by rfl,by rfl,by exact Nat.le_refl _,fun _ _=>by rfl⟩).mono ?_;rintro e w2 ⟨rfl,b2,c2,hlk⟩))
 all_goals
  rcases HZ.out with ⟨q,rfl,rfl⟩|⟨rfl,rfl⟩
  ·clear HZ
   go_wp2_with fail
   go_ret2
   exact ⟨rfl,b2⟩
  ·clear HZ
   go_wp2_with fail
   go_ret2
   exact ⟨rfl,b2⟩
theorem QF.ay (h:QF w f D g n) (t:dM w b g M N) {i:Nat}(hi:i<8) (aG:i<N.length) (h0:0<N[i].1) :
 Calls Tryz.prog 219 #[wp f,wp b,.int .i64 (i:Int)] w fun e w'=>e=.returned (.tuple #[wp (g.B N[i].1),.nilIface])∧Below w.heap.size w w':=by
 have hM:i<M.length:=by have:=t.tab.len;omega
 have hk:=t.keyOf hM aG h0
 have hat:=zf t.tab.len hi
 exact h.GU t.tab i _ (by rw [hat,uO hk]) (by rw [hat];exact ⟨(t.tab.nn hM).1,(t.tab.nn hM).2.1⟩) false (.inl ⟨_,rfl,rfl⟩)
theorem QF.j4 (h:QF w f D g n) (t:dM w b g M N) (x:Int) (hx:aJ N x=false) :
 Calls Tryz.prog 219 #[wp f,wp b,.int .i64 x] w fun e w'=>e=.returned (.tuple #[.pointer none,eQ 7])∧Below w.heap.size w w':=by
 have h1:=acO t.tab.len (fun x hx=>(t.tab.pos x hx).1) x
 rw [t.Zk h x,hx] at h1
 have h2:(IY M x).1=0:=by
  by_cases e:(IY M x).1=0
  ·exact e
  ·simp [e] at h1
 exact h.GU t.tab x _ (by rw [h2,Et h.k0]) (by rw [h2];omega) true (.inr ⟨rfl,rfl⟩)
end
section
variable {w w' w2:World}{f b n:Nat}{D D':DS}{g g':QG}{M N N':Ns}{d k:Int}{e:En}
theorem CP (w:World) (X:Int) (Y:Bool):Calls Tryz.prog 293 #[.agg #[.int .i64 X,.bool Y]] w fun e w'=>e=.returned (.bool (X == 0))∧Below w.heap.size w w':=by
 have bA:Below w.heap.size w (w.alloc (.cells #[.int .i64 X,.bool Y] 113)):=(Below.refl _ w).alloc (Nat.le_refl _) _
 obtain ⟨c0,c1⟩:=zD w (.int .i64 X) (.bool Y) 113
 go_enter Tryz.func293,Tryz.ntmps293
 go_wp2_with (go_at_call 216;refine (lJ _ X Y).mono ?_;rintro e w2 ⟨rfl,b2⟩)
 go_ret
 exact ⟨rfl,bA.trans (b2.mono bA.size)⟩
theorem QT.zI (h:QT w b M):Calls Tryz.prog 292 #[.slice (some ⟨b,0,none⟩) 8 8,.func (.func 293) #[] #[]] w fun e w'=>e=.returned (.int .i64 (ai M))∧Below w.heap.size w w':=by
 have HL:Aside (M.length=8):=h.len
 go_enter Tryz.func292,Tryz.ntmps292
 go_wp2_with fail
 go_loopg [5,8] 8 (fun g _ s8 wx=>∃i:Nat,Aside (i+g=8)∧s8=.int .i64 (i:Int)∧Aside (∀j (hj:j<M.length),j<i→M[j].1≠0)∧Below w.heap.size w wx)
 case atStart=>exact ⟨0,rfl,rfl,(fun j _ hj=>by omega),Below.refl _ _⟩
 case round=>
  obtain ⟨i,HI,rfl,HN,hb⟩:=hrel
  have hi9:i≤8:=by have:=HI.out;omega
  have hi9':(i:Int)≤8:=by omega
  by_cases hlt:(i:Int)<8
  ·have aG:i<M.length:=by have:=HL.out;omega
   obtain ⟨c0,c1⟩:=(h.below hb).at (i:=i) (by omega)
   have HX0:Aside (M[i].1=0→ai M=i):=fun e=>GJ aG (fun j hj=>HN.out j (by omega) hj) e
   have HX1:Aside (M[i].1≠0→∀j (hj:j<M.length),j<i+1→M[j].1≠0):=fun e j hj hji=>by
    by_cases e2:j=i
    ·subst e2;exact e
    ·exact HN.out j hj (by omega)
   generalize M[i].1=X at *
   generalize M[i].2=Y at *
   have hsz:=hb.size
   clear h aG
   by_cases hX:X=0
   ·have E9:Aside (ai M=i):=HX0.out hX
    subst hX
    go_wp2_with (go_at_call 293;refine (CP _ 0 Y).mono ?_;rintro e w2 ⟨rfl,b2⟩)
    go_ret
    exact ⟨by rw [E9.out];rfl,hb.trans (b2.mono hsz)⟩
   ·have hX':(X == 0)=false:=by simpa using hX
    clear hX
    go_wp2_with (go_at_call 293;refine (CP _ X Y).mono ?_;rintro e w2 ⟨rfl,b2⟩)
    go_roundg (7-i)
    case measure=>have:=HI.out;omega
    case rel=>exact ⟨i+1,(show i+1+(7-i)=8 by omega),by rfl,HX1.out (by simpa using hX'),hb.trans (b2.mono hsz)⟩
  ·have e9:ai M=-1:=Ay (fun x hx=>by
    obtain ⟨j,hj,rfl⟩:=List.getElem_of_mem hx
    exact HN.out j hj (by have:=HL.out;omega))
   have E9:Aside (ai M=-1):=e9
   clear e9
   go_wp2_with fail
   go_ret
   exact ⟨by rw [E9.out];rfl,hb⟩
theorem QT.mf (h:QT w b M):Calls Tryz.prog 223 #[wp b] w fun e w'=>e=.returned (.tuple #[.int .i64 (ai M),.bool (decide (0≤ai M))])∧Below w.heap.size w w':=by
 have hI:=h.zI
 generalize ai M=L at *
 clear h
 go_enter Tryz.func223,Tryz.ntmps223
 go_wp2_with (go_at_call 292;refine hI.mono ?_;rintro e w2 ⟨rfl,b2⟩)
 go_ret2
 exact ⟨rfl,b2⟩
theorem dM.mf (t:dM w b g M N) (h:QF w f D g n):Calls Tryz.prog 223 #[wp b] w fun e w'=>e=.returned (.tuple #[.int .i64 (ai N),.bool (decide (0≤ai N))])∧Below w.heap.size w w':=by
 rw [← (t.eqs h).2];exact t.tab.mf
theorem QF.rf (h:QF w f D g n):Calls Tryz.prog 141 #[wp f] w fun e w'=>e=.returned (.int .i64 (n:Int))∧w'=w:=by
 have c1:=h.cells.2
 have h9:=sN f
 have hl:=h.map
 go_enter Tryz.func141,Tryz.ntmps141
 go_wp2_with (refine il rfl _ 105 rfl 272 Tryz.underlying105 g.gO _ _ rfl hl ?_)
 go_ret
 exact ⟨rfl,rfl⟩
theorem aaT (g:Nat) (w:World):(binOp BinOp.eql 105 (.map (some g)) (.map none)).run Tryz.prog w=.ok (.bool false) w:=by kernel_rfl
theorem QF.Me (h:QF w f D g n) (t:dM w b g M N) (x:Nat) (hx:x≤2) (hn:n<10000):Calls Tryz.prog 248 #[wp f,wp b,.int .i64 (x:Int)] w fun e w'=>e=.returned (.bool (decide (ak N+x≤8) && decide (n+x≤40)))∧Below w.heap.size w w':=by
 have hU:=t.xZ h
 have YL:=yc N
 rw [t.len] at YL
 have c1:=h.cells.2
 have h8:=RG b
 have h9:=sN f
 have h7:=aaT g.gO
 have hO:∀V,Below w.heap.size w V→Calls Tryz.prog 141 #[wp f] V fun e w'=>e=.returned (.int .i64 (n:Int))∧w'=V:=fun V hV=>(h.below hV).rf
 generalize ak N=U at *
 have hU8:(U:Int)≤8:=by omega
 have hx8:(x:Int)≤2:=by omega
 have hn8:(n:Int)<10000:=by omega
 by_cases hu:U+x≤8
 ·have e1:decide (U+x≤8)=true:=by simpa using hu
  have e2:(U:Int)+(x:Int)≤8:=by omega
  have E3:Aside (decide ((n:Int)+(x:Int)≤40)=decide (n+x≤40)):=by
   show decide ((n:Int)+(x:Int)≤40)=decide (n+x≤40)
   by_cases hh:n+x≤40
   ·rw [decide_eq_true hh,decide_eq_true (by omega)]
   ·rw [decide_eq_false hh,decide_eq_false (by omega)]
  rw [e1,Bool.true_and]
  rw [←E3.out]
  clear h t YL hu e1 E3
  go_enter Tryz.func248,Tryz.ntmps248
  go_wp2_with (first
   |(go_at_call 145;refine hU.mono ?_;rintro e w1 ⟨rfl,b1⟩)
   |(go_at_call 141;refine (hO _ b1).mono ?_;rintro e w2 ⟨rfl,hw2⟩;subst w2))
  go_ret
  exact ⟨rfl,b1⟩
 ·have e1:decide (U+x≤8)=false:=by simpa using hu
  have e2:¬((U:Int)+(x:Int)≤8):=by omega
  rw [e1,Bool.false_and]
  clear h t YL hu e1
  go_enter Tryz.func248,Tryz.ntmps248
  go_wp2_with (go_at_call 145;refine hU.mono ?_;rintro e w1 ⟨rfl,b1⟩)
  go_ret
  exact ⟨rfl,b1⟩
theorem GK (w:World) (x:Int):Calls Tryz.prog 247 #[.int .i64 x] w fun e w'=>e=.returned (.bool (decide (1≤x) && decide (x≤3)))∧w'=w:=by
 go_enter Tryz.func247,Tryz.ntmps247
 by_cases h1:1≤x
 ·go_wp2_with fail
  go_ret
  exact ⟨by simp [h1],rfl⟩
 ·go_wp2_with fail
  go_ret
  exact ⟨by simp;omega,rfl⟩
theorem QF.oQ (h:QF w f D g n) (he:D.E d=some e):Calls Tryz.prog 254 #[wp (g.B d)] w fun x w'=>x=.returned (.bool (e.kind == 1))∧w'=w:=by
 obtain ⟨c,h1,_⟩:=h.gF d e he
 obtain ⟨c0,_⟩:=h.lU he h1
 go_enter Tryz.func254,Tryz.ntmps254
 go_wp2_with fail
 go_ret
 exact ⟨rfl,rfl⟩
end
section
variable {w w':World}{r gN s:Nat}{T:Wd}{Z:Int→Nat}{B G:Int→Nat}{V:Int→Value}{O:Nat→Prop}
theorem Stp.grown {i:Nat}(hg:w.grownBy w' (some i)) (hi:O i):Stp w w' O O:=⟨.grown hg hi,fun _ h=>.inl h⟩
theorem Stp.cell {b o:Nat}(v:Value) (hi:O b):Stp w (w.setCell ⟨b,o,none⟩ v) O O:=
 .grown (i:=b) ⟨rfl,rfl,rfl,by simp [World.setCell],fun i _ hne=>Below.heap_setCell _ _ _ _ (fun e=>hne (by rw [e]))⟩ hi
theorem dL.Lv (h:dL w r gN s T Z B G V O) {k:Int}{nd:Nd}(e:T k=some nd):w.cell? ⟨B k,2,none⟩=some (.int .i64 (Z k:Int))∧w.cell? ⟨B k,3,none⟩=some (.int .i64 (dZ nd:Int)):=by
 cases nd with
 |dir C=>obtain ⟨_,_,h2,h3⟩:=h.yK e;exact ⟨h2,h3⟩
 |file b x=>obtain ⟨_,_,h2,h3⟩:=h.ql e;exact ⟨h2,h3⟩
theorem dL.H7 (h:dL w r gN s T Z B G V O) (n:Int) (hw:(Lit.int .i64 n).wf=true) {nd:Nd}(hn:T n=some nd) (hz:¬(Z n=0∧dZ nd=0)) :
 Calls Tryz.prog 268 #[wp r,.int .i64 n] w fun e w'=>(∃v,e=.returned v)∧w'=w:=by
 have c0:=h.c0
 have hlk:=h.look n hw
 rw [hn] at hlk
 simp only [Option.isSome_some,if_true] at hlk
 obtain ⟨s2,s3⟩:=h.Lv hn
 by_cases e1:Z n=0
 ·have e2:dZ nd≠0:=fun e=>hz ⟨e1,e⟩
  have e3:((dZ nd:Int) == 0)=false:=by simp;omega
  rw [e1] at s2
  generalize dZ nd=H at *
  go_enter Tryz.func268,Tryz.ntmps268
  go_wp2_with fail
  go_end0
  exact ⟨⟨_,rfl⟩,rfl⟩
 ·have e3:((Z n:Int) == 0)=false:=by simp;omega
  generalize dZ nd=H at *
  generalize Z n=z at *
  go_enter Tryz.func268,Tryz.ntmps268
  go_wp2_with fail
  go_end0
  exact ⟨⟨_,rfl⟩,rfl⟩
theorem dL.Ol (h:dL w r gN s T Z B G V O) (n:Int) (hw:(Lit.int .i64 n).wf=true) {nd:Nd}(hn:T n=some nd) (hz:Z n=0) (hh:dZ nd=0) :
 Calls Tryz.prog 268 #[wp r,.int .i64 n] w fun e w'=>(∃v,e=.returned v)∧dL w' r gN (s-1) (pY T n) Z B G V O∧Stp w w' O O:=by
 have c0:=h.c0
 have hlk:=h.look n hw
 rw [hn] at hlk
 simp only [Option.isSome_some,if_true] at hlk
 obtain ⟨s2,s3⟩:=h.Lv hn
 rw [hz] at s2
 rw [hh] at s3
 have hmap:=h.map
 have hM:((T n).map (fun _=>wp (B n))).isSome=true:=by rw [hn];rfl
 go_enter Tryz.func268,Tryz.ntmps268
 go_wp2_with (refine nE rfl _ _ 102 rfl 100 Tryz.underlying102 gN _ _ rfl hmap n rfl hw ?_;intro w1 pm g1;rw [if_pos hM] at pm)
 go_end0
 exact ⟨⟨_,rfl⟩,h.era n g1 pm,.grown g1 h.sj⟩
theorem bu.Ja (hT:bu T) {n:Int}{b b':List UInt8}{x x':Nat}(hn:T n=some (.file b x)) (hb:b'.length≤256) (hx:x'≤1000) (hx':x'≠0∨aM T n≠0):bu (cB T n (.file b' x')):=
 { toTrOk:=hT.toTrOk.Ja hn hb hx
   nr:=by rw [kJ hn];exact hT.nr
   lv:=fun k nd e=>by
    rw [kJ hn]
    by_cases e1:k=n
    ·subst e1;rw [aj] at e;cases e
     rcases hx' with e2|e2
     ·exact .inr (.inr e2)
     ·exact .inr (.inl e2)
    ·rw [ag _ e1] at e;exact hT.lv k nd e }
theorem PT.XP (h:PT w r T O) (hT:bu T) (n:Int) (hw:(Lit.int .i64 n).wf=true) (hhx:∀b x,T n=some (.file b x)→x+1≤1000) :
 Calls Tryz.prog 250 #[wp r,.int .i64 n] w fun e w'=>e=.returned (aI (dY T n 1))∧PT w' r (dh T n 1) O∧Stp w w' O O:=by
 obtain ⟨gN,s,B,G,V,h⟩:=h
 by_cases hz:bF T n=0
 ·obtain ⟨b,x,hn⟩:=mJ hz
  have hF:=h.nD n hw hn
  have hx:=hhx b x hn
  have hb:=(hT.small n b x hn).1
  obtain ⟨_,_,_,n3⟩:=h.ql hn
  have nf:=h.ru hn 3
  have hE:dY T n 1=0:=by unfold dY;rw [hn];simp only;rw [if_neg (by omega)]
  have hT':=hT.Ja (b':=b) (x':=x+1) hn hb hx (.inl (by omega))
  have hN:dh T n 1=cB T n (.file b (x+1)):=by
   unfold dh;rw [hn];simp only
   rw [if_neg (by omega),show ((x:Int)+1).toNat=x+1 by omega]
   exact zY hT'.toTrOk hT'.lv
  have h1:=h.held hn (x+1)
  have hcast:(((x+1:Nat):Int))=(x:Int)+1:=by omega
  rw [hcast] at h1
  have hfin:PT (w.setCell ⟨B n,3,none⟩ (.int .i64 ((x:Int)+1))) r (dh T n 1) O:=by
   rw [hN]
   exact ⟨gN,s,B,G,V,h1.as rfl (fun k _=>kJ hn k)⟩
  have hst:Stp w (w.setCell ⟨B n,3,none⟩ (.int .i64 ((x:Int)+1))) O O:=.cell _ (h.ownB n (by rw [hn];rfl))
  have hwx:wrap64 ((x:Int)+1)=(x:Int)+1:=by unfold wrap64;omega
  rw [hE,aB]
  go_enter Tryz.func250,Tryz.ntmps250
  go_wp2_with (go_at_call 234;refine hF.mono ?_;rintro e w' ⟨rfl,hw'⟩;subst w')
  go_ret
  exact ⟨rfl,hfin,hst⟩
 ·have hF:=h.kI n hw hz
  have hE:dY T n 1=bF T n:=by
   unfold dY
   cases hn:T n with
   |none=>rfl
   |some nd=>cases nd with
    |dir C=>rfl
    |file b x=>exact absurd (by unfold bF;rw [hn]) hz
  have hN:dh T n 1=T:=by
   unfold dh
   cases hn:T n with
   |none=>rfl
   |some nd=>cases nd with
    |dir C=>rfl
    |file b x=>exact absurd (by unfold bF;rw [hn]) hz
  rw [hE,hN,ax hz]
  generalize bF T n=z at *
  go_enter Tryz.func250,Tryz.ntmps250
  go_wp2_with (go_at_call 234;refine hF.mono ?_;rintro e w' ⟨rfl,hw'⟩;subst w')
  go_ret
  exact ⟨rfl,⟨gN,s,B,G,V,h⟩,.refl _ _⟩
theorem TrOk.era (hT:TrOk T) {n:Int}(h0:n≠0) (hc:aM T n=0):TrOk (pY T n):=by
 have hsub:∀k nd,pY T n k=some nd→T k=some nd:=fun k nd e=>by
  by_cases e1:k=n
  ·subst e1;rw [jm] at e;cases e
  ·rw [fw e1] at e;exact e
 have hl:¬Led T n:=fun h=>by
  rcases (ny hT n).1 h with e|e
  ·exact h0 e
  ·exact e hc
 refine ⟨?_,fun k e=>hT.key k ?_,fun k C e=>hT.nodup k C (hsub k _ e),fun k C sx m e e2=>?_,fun k C x e=>hT.name k C x (hsub k _ e),fun k b x e=>hT.small k b x (hsub k _ e)⟩
 ·obtain ⟨C,e⟩:=hT.root
  exact ⟨C,by rw [fw (Ne.symm h0)];exact e⟩
 ·cases h:pY T n k with
  |none=>rw [h] at e;cases e
  |some nd=>rw [hsub k nd h];rfl
 ·have:=hT.child k C sx m (hsub k _ e) e2
  rw [fw (fun em=>hl (.inr ⟨k,C,sx,hsub k _ e,by rw [←em];exact e2⟩))]
  exact this
theorem bu.era (hT:TrOk T) (hnr:aM T 0=0) {n:Int}{nd:Nd}(hl:∀k nd,k≠n→T k=some nd→k=0∨aM T k≠0∨dZ nd≠0) (hn:T n=some nd) (h0:n≠0) (hc:aM T n=0) (h1:∀k,cnt1 (T n) k=0):bu (pY T n):=
 { toTrOk:=hT.era h0 hc
   nr:=by rw [EE h1];exact hnr
   lv:=fun k mP e=>by
    rw [EE h1]
    by_cases e1:k=n
    ·subst e1;rw [jm] at e;cases e
    ·rw [fw e1] at e;exact hl k mP e1 e }
end
section
variable {w w':World}{r gN s:Nat}{T:Wd}{Z:Int→Nat}{B G:Int→Nat}{V:Int→Value}{O:Nat→Prop}
theorem dL.Ac (h:dL w r gN s T Z B G V O) (n:Int) (hw:(Lit.int .i64 n).wf=true) {nd:Nd}(hn:T n=some nd) (h1:∀k,cnt1 (T n) k=0) (hZ:∀k,(T k).isSome=true→Z k=aM T k) :
 Calls Tryz.prog 268 #[wp r,.int .i64 n] w fun e w'=>(∃v,e=.returned v)∧PT w' r (if aM T n=0∧dZ nd=0 then pY T n else T) O∧Stp w w' O O:=by
 have hzn:=hZ n (by rw [hn];rfl)
 by_cases hz:aM T n=0∧dZ nd=0
 ·rw [if_pos hz]
  refine (h.Ol n hw hn (hzn.trans hz.1) hz.2).mono ?_
  rintro e w' ⟨hv,h',hs⟩
  refine ⟨hv,⟨gN,_,B,G,V,h'.as rfl (fun k hk=>?_)⟩,hs⟩
  have hk':(T k).isSome=true:=by
   by_cases e1:k=n
   ·subst e1;rw [jm] at hk;cases hk
   ·rw [fw e1] at hk;exact hk
  rw [EE h1,hZ k hk']
 ·rw [if_neg hz]
  refine (h.H7 n hw hn (by rw [hzn];exact hz)).mono ?_
  rintro e w' ⟨hv,rfl⟩
  exact ⟨hv,⟨gN,s,B,G,V,h.as rfl (fun k hk=>(hZ k hk).symm)⟩,.refl _ _⟩
theorem Ex (hT:TrOk T) {n:Int}{b:List UInt8}{x:Nat}(hn:T n=some (.file b x)):n≠0:=by
 rintro rfl
 obtain ⟨C,e⟩:=hT.root
 rw [e] at hn;cases hn
theorem CZ (hT:bu T) {n:Int}{b:List UInt8}{x:Nat}(hn:T n=some (.file b (x+1))) :
 dY T n (-1)=0∧dh T n (-1)=(if aM (cB T n (.file b x)) n=0∧dZ (.file b x)=0 then pY (cB T n (.file b x)) n else cB T n (.file b x))∧bu (dh T n (-1)):=by
 have hsm:=hT.small n b (x+1) hn
 have hok:TrOk (cB T n (.file b x)):=hT.toTrOk.Ja hn hsm.1 (by omega)
 have hl:∀k nd,k≠n→cB T n (.file b x) k=some nd→k=0∨aM (cB T n (.file b x)) k≠0∨dZ nd≠0:=fun k nd e h=>by
  rw [kJ hn];rw [ag _ e] at h;exact hT.lv k nd h
 have h0:=Ex hT.toTrOk hn
 have hN:dh T n (-1)=iQ (cB T n (.file b x)):=by
  unfold dh;rw [hn];simp only
  rw [if_neg (by omega),show (((x+1:Nat):Int) + -1).toNat=x by omega]
 have hsw:=Ch hok n hl _ (aj T n (.file b x)) h0
 refine ⟨by unfold dY;rw [hn];simp only;rw [if_neg (by omega)],by rw [hN,hsw],?_⟩
 rw [hN,hsw]
 by_cases hz:aM (cB T n (.file b x)) n=0∧dZ (.file b x)=0
 ·rw [if_pos hz]
  exact bu.era hok (by rw [kJ hn];exact hT.nr) hl (aj _ _ _) h0 hz.1 (fun k=>by rw [aj];rfl)
 ·rw [if_neg hz]
  refine hT.Ja hn hsm.1 (by omega) ?_
  by_cases e:aM T n=0
  ·exact .inl (fun ex=>hz ⟨by rw [kJ hn];exact e,ex⟩)
  ·exact .inr e
theorem PT.EC (h:PT w r T O) (hT:bu T) (n:Int) (hw:(Lit.int .i64 n).wf=true) :
 Calls Tryz.prog 328 #[wp r,.int .i64 n] w fun e w'=>e=.returned (aI (dY T n (-1)))∧PT w' r (dh T n (-1)) O∧Stp w w' O O:=by
 obtain ⟨gN,s,B,G,V,h⟩:=h
 by_cases hz:bF T n=0
 ·obtain ⟨b,x,hn⟩:=mJ hz
  have hF:=h.nD n hw hn
  obtain ⟨_,_,_,n3⟩:=h.ql hn
  have nf:=h.ru hn 3
  cases x with
  |zero=>
   have hE:dY T n (-1)=10:=by unfold dY;rw [hn];simp only;rw [if_pos (by omega)]
   have hN:dh T n (-1)=T:=by unfold dh;rw [hn];simp only;rw [if_pos (by omega)]
   rw [hE,hN]
   have hfin:PT w r T O:=⟨gN,s,B,G,V,h⟩
   go_enter Tryz.func328,Tryz.ntmps328
   go_wp2_with (go_at_call 234;refine hF.mono ?_;rintro e w' ⟨rfl,hw'⟩;subst w')
   go_ret
   exact ⟨rfl,hfin,.refl _ _⟩
  |succ x=>
   obtain ⟨hE,hN,_⟩:=CZ hT hn
   have hx:=(hT.small n b (x+1) hn).2
   have h1:=h.held hn x
   have hst:Stp w (w.setCell ⟨B n,3,none⟩ (.int .i64 (x:Int))) O O:=.cell _ (h.ownB n (by rw [hn];rfl))
   have hS:=h1.Ac n hw (aj _ _ _) (fun k=>by rw [aj];rfl) (fun k _=>(kJ hn k).symm)
   rw [←hN] at hS
   rw [hE,aB]
   have hxx:wrap64 (((x+1:Nat):Int)-1)=(x:Int):=by unfold wrap64;omega
   have hx0:(((x+1:Nat):Int) == 0)=false:=by simp;omega
   have hsub:((x+1:Nat):Int)-1=(x:Int):=by omega
   generalize ((x+1:Nat):Int)=X at *
   go_enter Tryz.func328,Tryz.ntmps328
   go_wp2_with (first
    |(go_at_call 234;refine hF.mono ?_;rintro e w' ⟨rfl,hw'⟩;subst w')
    |(go_at_call 268;refine hS.mono ?_;rintro e w2 ⟨⟨v,rfl⟩,h2,st2⟩))
   go_ret
   exact ⟨rfl,h2,hst.trans st2⟩
 ·have hF:=h.kI n hw hz
  have hE:dY T n (-1)=bF T n:=by
   unfold dY
   cases hn:T n with
   |none=>rfl
   |some nd=>cases nd with
    |dir C=>rfl
    |file b x=>exact absurd (by unfold bF;rw [hn]) hz
  have hN:dh T n (-1)=T:=by
   unfold dh
   cases hn:T n with
   |none=>rfl
   |some nd=>cases nd with
    |dir C=>rfl
    |file b x=>exact absurd (by unfold bF;rw [hn]) hz
  rw [hE,hN,ax hz]
  generalize bF T n=z at *
  go_enter Tryz.func328,Tryz.ntmps328
  go_wp2_with (go_at_call 234;refine hF.mono ?_;rintro e w' ⟨rfl,hw'⟩;subst w')
  go_ret
  exact ⟨rfl,⟨gN,s,B,G,V,h⟩,.refl _ _⟩
theorem xB (hT:bu T) {d n:Int}{nm:Nm}{C:List (Nm×Int)}(hd:T d=some (.dir C)) (hl:C.lookup nm=some n) (hm:pR T n=0) :
 n≠d∧n≠0∧(∀k,cnt1 (aZ T d nm n) k=0)∧aZ T d nm n=T n∧∀nd,T n=some nd→(iQ (aZ T d nm)=(if aM (aZ T d nm) n=0∧dZ nd=0 then pY (aZ T d nm) n else aZ T d nm)∧bu (iQ (aZ T d nm))):=by
 have hnd:n≠d:=by
  rintro rfl
  unfold pR at hm;rw [hd] at hm
  have:=List.length_pos_of_mem (pF hl)
  simp only at hm;omega
 have hc:=EF hT.toTrOk hd hl
 have hn0:n≠0:=by
  rintro rfl
  have:=hc 0
  rw [if_pos rfl,hT.nr] at this;omega
 have hdn:aZ T d nm n=T n:=by rw [jD hd,ag _ hnd]
 have hsome:=hT.child d C nm n hd hl
 have h1:∀k,cnt1 (aZ T d nm n) k=0:=fun k=>by
  rw [hdn]
  cases e:T n with
  |none=>rfl
  |some nd=>cases nd with
   |file b x=>rfl
   |dir D=>
    unfold pR at hm;rw [e] at hm
    have:D=[]:=List.length_eq_zero_iff.1 hm
    subst this;rfl
 refine ⟨hnd,hn0,h1,hdn,fun nd hn=>?_⟩
 have hok:TrOk (aZ T d nm):=hT.toTrOk.del d nm
 have hlv:∀k nd,k≠n→aZ T d nm k=some nd→k=0∨aM (aZ T d nm) k≠0∨dZ nd≠0:=fun k mP e h=>by
  have hck:=hc k
  rw [if_neg e] at hck
  rw [show aM (aZ T d nm) k=aM T k by omega]
  by_cases e1:k=d
  ·subst e1
   rw [jD hd,aj] at h;cases h
   rcases hT.lv k _ hd with e2|e2|e2
   ·exact .inl e2
   ·exact .inr (.inl e2)
   ·exact absurd rfl e2
  ·rw [jD hd,ag _ e1] at h;exact hT.lv k mP h
 have hnr:aM (aZ T d nm) 0=0:=by have:=hc 0;rw [hT.nr] at this;omega
 have hsw:=Ch hok n hlv nd (by rw [hdn];exact hn) hn0
 refine ⟨hsw,?_⟩
 rw [hsw]
 by_cases hz:aM (aZ T d nm) n=0∧dZ nd=0
 ·rw [if_pos hz]
  exact bu.era hok hnr hlv (by rw [hdn];exact hn) hn0 hz.1 h1
 ·rw [if_neg hz]
  exact { toTrOk:=hok,nr:=hnr,lv:=fun k mP e=>by
           by_cases e1:k=n
           ·subst e1
            rw [hdn,hn] at e;cases e
            by_cases e2:aM (aZ T d nm) k=0
            ·exact .inr (.inr (fun e3=>hz ⟨e2,e3⟩))
            ·exact .inr (.inl e2)
           ·exact hlv k mP e1 e }
theorem bu.unlink (hT:bu T) (p:List UInt8):bu (fF T p):=by
 unfold fF
 by_cases hE:dV T p=0
 ·rw [if_neg (fun e=>e hE)]
  unfold dV at hE
  by_cases hz:(ae T p).2.2=0
  ·rw [if_neg (fun e=>e hz)] at hE
   obtain ⟨⟨C,hd⟩,_⟩:=fu hT.toTrOk hz
   rw [fe hd] at hE
   cases hl:C.lookup (ae T p).2.1 with
   |none=>rw [hl] at hE;simp at hE
   |some n=>
    rw [hl] at hE
    simp only at hE
    by_cases hm:pR T n=0
    ·obtain ⟨_,_,_,_,ht⟩:=xB hT hd hl hm
     have hs:=hT.child _ C _ n hd hl
     cases hn:T n with
     |none=>rw [hn] at hs;cases hs
     |some nd=>exact (ht nd hn).2
    ·rw [if_pos hm] at hE;omega
  ·rw [if_pos hz] at hE;exact absurd hE hz
 ·rw [if_pos hE];exact hT
end
section
variable {w w' w2:World}{f b n:Nat}{D D':DS}{g g':QG}{M N N':Ns}{d k:Int}{e:En}
theorem GZ {W:World}{i:Nat}{a b c d e x:Value}{t:TypeId}(h:W.heap[i]? = some (.cells #[a,b,c,d,e,x] t)) (v:Value):(W.setCell ⟨i,2,none⟩ v).heap[i]? = some (.cells #[a,b,v,d,e,x] t):=by
 rw [aS W i 2 v _ _ _ h];rfl
theorem UI {W:World}{i:Nat}{a b c d e x:Value}{t:TypeId}(h:W.heap[i]? = some (.cells #[a,b,c,d,e,x] t)) (v:Value):(W.setCell ⟨i,4,none⟩ v).heap[i]? = some (.cells #[a,b,c,d,v,x] t):=by
 rw [aS W i 4 v _ _ _ h];rfl
theorem QF.count (h:QF w f D g n) (he:D.E d=some e) (c':Int):QF (w.setCell ⟨g.B d,2,none⟩ (.int .i64 c')) f { D with R:=fun i=>if i=d then some c' else D.R i } g n:=by
 obtain ⟨c,h1,h2,h3⟩:=h.gF d e he
 exact h.afk he c' (GZ h2 _) (aV _ _ _ _)
theorem QF.place (h:QF w f D g n) (he:D.E d=some e) (a:Int):QF (w.setCell ⟨g.B d,4,none⟩ (.int .i64 a)) f { D with E:=fun i=>if i=d then some { e with pos:=a } else D.E i } g n:=by
 obtain ⟨c,h1,h2,h3⟩:=h.gF d e he
 exact h.QV he h1 { e with pos:=a } (UI h2 _) (aV _ _ _ _)
theorem QF.DR (h:QF w f D g n) (hb:g.dC b=none) (hg:w.grownBy w' (some b)):QF w' f D g n:=
 h.keep (fun i hi=>hg.block i (h.lt i hi) (fun x=>by rw [Option.some.inj x,hb] at hi;cases hi)) hg.size
theorem dM.sJ (t:dM w b g M N) {x:Nat}(hx:(g.dC x).isSome=true) (hg:w.grownBy w' (some x)):dM w' b g M N:=
 t.keep (hg.block b t.tab.lt (fun e=>by rw [←Option.some.inj e,t.off] at hx;cases hx))
theorem QT.Cq (w:World) (b i:Nat) (u v:Value):w.grownBy ((w.setCell ⟨b,i*2,none⟩ u).setCell ⟨b,i*2+1,none⟩ v) (some b):=iJ (aV _ _ _ _) (aV _ _ _ _)
theorem QF.Eu (h:QF w f D g n) (t:dM w b g M N) {i:Nat}(hi:i<8) (hk:g.K k=some d) (hd:0<d) (he:D.E d=some e) {c:Int}(hc:D.R d=some c) (hc0:0≤c) (hc1:c<100000) :
 Calls Tryz.prog 224 #[wp f,wp b,.int .i64 (i:Int),.int .i64 k] w fun x w'=>x=.returned (.tuple #[])∧QF w' f { D with R:=fun j=>if j=d then some (c+1) else D.R j } g n∧dM w' b g (M.set i (k,false)) (N.set i (d,false))∧Wt (fun i=>(g.dC i).isSome=true∨i=b) w w':=by
 obtain ⟨_,hk0,hk1⟩:=h.key k d hk
 obtain ⟨t0,t1⟩:=t.tab.at hi
 have z0:=t.tab.free (i*2)
 have z1:=t.tab.free (i*2+1)
 have hT1:=t.set (i:=i) (k,false) (d,false) (t.tab.put hi (k,false) ⟨by omega,hk1,fun e=>by omega⟩) ⟨rfl,.inr ⟨hd,hk⟩⟩
 have g1:=QT.Cq w b i (.int .i64 k) (.bool false)
 have h1:=h.DR t.off g1
 obtain ⟨W,hW⟩:∃W,(w.setCell ⟨b,i*2,none⟩ (.int .i64 k)).setCell ⟨b,i*2+1,none⟩ (.bool false)=W:=⟨_,rfl⟩
 simp only at hT1
 rw [hW] at hT1 g1 h1
 have c1:=h1.cells.2
 have hlk:=h1.look (k:=k) (by omega) hk1
 rw [uO hk] at hlk
 obtain ⟨_,_,e2,_,_,_,ez⟩:=h1.lU he hc
 have ez2:=ez 2
 have h2:=h1.count he (c+1)
 obtain ⟨_,_,_,hkb⟩:=h.gF d e he
 have g2:=aV W (g.B d) 2 (.int .i64 (c+1))
 have hT2:=hT1.sJ (by rw [hkb];rfl) g2
 have wt:Wt (fun i=>(g.dC i).isSome=true∨i=b) w (W.setCell ⟨g.B d,2,none⟩ (.int .i64 (c+1))):=(Wt.grown g1 (.inr rfl)).trans (Wt.grown g2 (.inl (by rw [hkb];rfl)))
 have hw1:wrap64 (c+1)=c+1:=by unfold wrap64;omega
 have hi8:(i:Int)<8:=by omega
 generalize N.set i (d,false)=N2 at *
 generalize M.set i (k,false)=M2 at *
 generalize (M[i]'(by rw [t.tab.len];exact hi)).1=X at *
 generalize (M[i]'(by rw [t.tab.len];exact hi)).2=Y at *
 generalize ({ D with R:=fun j=>if j=d then some (c+1) else D.R j }:DS)=D2 at *
 generalize g.B d=q at *
 go_enter Tryz.func224,Tryz.ntmps224
 go_upto_region 1 with fail
 go_wp2_with fail
 go_end0
 exact ⟨rfl,h2,hT2,wt⟩
theorem QF.Oi (h:QF w f D g n) {q:Nat}{kd pr cn nd ps:Int}{pp:Value}(hq:w.heap[q]? = some (.cells #[.int .i64 kd,.int .i64 pr,.int .i64 cn,.int .i64 nd,.int .i64 ps,pp] 296)) (hqk:g.dC q=some (.gF d)) (hkd:kd=1) (hT:bu D.T) (hn0:0≤nd) (hn1:nd<100000) :
 Calls Tryz.prog 294 #[wp f,wp q] w fun x w'=>x=.returned (.tuple #[])∧(∃g',QF w' f { D with T:=dh D.T nd (-1) } g' n∧(∀i,i<w.heap.size→g'.dC i=g.dC i)∧g'.K=g.K∧g'.r=g.r)∧Wt (fun i=>(g.dC i).isSome=true) w w':=by
 subst hkd
 have hqc:∀ {V:World},V.heap[q]? = w.heap[q]? → V.cell? ⟨q,0,none⟩=some (.int .i64 1)∧V.cell? ⟨q,3,none⟩=some (.int .i64 nd):=fun {V} hV=>by
  rw [hq] at hV
  exact ⟨by rw [cell_of_row _ _ _ _ _ _ hV];rfl,by rw [cell_of_row _ _ _ _ _ _ hV];rfl⟩
 obtain ⟨e0,e3⟩:=hqc (V:=w) rfl
 have c0:=h.cells.1
 have hfb:f<w.heap.size:=h.lt f (by rw [h.tf];rfl)
 have hqb:q<w.heap.size:=h.lt q (by rw [hqk];rfl)
 have hDr:∀V,Below w.heap.size w V→Calls Tryz.prog 328 #[wp g.r,.int .i64 nd] V fun x w'=>(∃z,x=.returned (aI z))∧((∃g',QF w' f { D with T:=dh D.T nd (-1) } g' n∧(∀i,i<w.heap.size→g'.dC i=g.dC i)∧g'.K=g.K∧g'.r=g.r)∧Wt (fun i=>(g.dC i).isSome=true) w w')∧w'.cell? ⟨f,0,none⟩=some (wp g.r)∧w'.cell? ⟨q,3,none⟩=some (.int .i64 nd):=fun V hV=>by
  have hV':=h.below hV
  obtain ⟨O,p,hO⟩:=hV'.tree
  refine (p.EC hT nd (gU hn0 (by omega))).mono ?_
  rintro x w' ⟨rfl,p',st⟩
  obtain ⟨g',a1,a2,a3,a4,_⟩:=hV'.turn hO p' st
  refine ⟨⟨_,rfl⟩,⟨⟨g',a1,fun i hi=>a2 i (Nat.lt_of_lt_of_le hi hV.size),a3,a4⟩,(Wt.below _ hV).trans (st.wt.mono (fun i hi=>by rw [hO i hi];rfl))⟩,?_,?_⟩
  ·have:=a1.cells.1
   rw [a4] at this
   exact this
  ·exact (hqc ((st.wt.block q (Nat.lt_of_lt_of_le hqb hV.size) (fun o=>oZ hqk (hO q o) (by simp) rfl)).trans (hV.block q hqb))).2
 have hI:Calls Tryz.prog 254 #[wp q] w fun x w'=>x=.returned (.bool true)∧w'=w:=by
  go_enter Tryz.func254,Tryz.ntmps254
  go_wp2_with fail
  go_ret
  exact ⟨rfl,rfl⟩
 generalize ({ D with T:=dh D.T nd (-1) }:DS)=D2 at *
 go_enter Tryz.func294,Tryz.ntmps294
 go_upto_region 1 with (go_at_call 254;refine hI.mono ?_;rintro x w1 ⟨rfl,hw1⟩;subst w1)
 go_region_held3 (fun w'=>w'.cell? ⟨f,0,none⟩=some (wp g.r)∧w'.cell? ⟨q,3,none⟩=some (.int .i64 nd)) (first|exact ⟨c0,e3⟩|exact ⟨k0,k3⟩) (first
  |(go_at_call 328;refine (hDr _ ⟨by rfl,by rfl,by rfl,by exact Nat.le_refl _,fun _ _=>by rfl⟩).mono ?_;rintro x w2 ⟨⟨z,rfl⟩,hR,k0,k3⟩))
 all_goals
  go_wp2_with fail
  refine bodyPost_ret (results_none rfl _ _ _) rfl ?_
  exact ⟨rfl,hR⟩
theorem QF.Ta (h:QF w f D g n) {q:Nat}{kd pr cn nd ps p:Int}{x:Pi}(hq:w.heap[q]? = some (.cells #[.int .i64 kd,.int .i64 pr,.int .i64 cn,.int .i64 nd,.int .i64 ps,wp (g.Q p)] 296)) (hqk:g.dC q=some (.gF d)) (hkd:kd≠1) (hp:D.P p=some x) (hF:0≤x.2.1∧x.2.1<1000) (hI:0≤x.2.2∧x.2.2<1000) :
 Calls Tryz.prog 294 #[wp f,wp q] w fun y w'=>y=.returned (.tuple #[])∧QF w' f { D with P:=fun i=>if i=p then some (rU x kd) else D.P i } g n∧Wt (fun i=>(g.dC i).isSome=true) w w':=by
 have hqc:∀ {V:World},V.heap[q]? = w.heap[q]? → V.cell? ⟨q,0,none⟩=some (.int .i64 kd)∧V.cell? ⟨q,5,none⟩=some (wp (g.Q p)):=fun {V} hV=>by
  rw [hq] at hV
  exact ⟨by rw [cell_of_row _ _ _ _ _ _ hV];rfl,by rw [cell_of_row _ _ _ _ _ _ hV];rfl⟩
 obtain ⟨e0,e5⟩:=hqc (V:=w) rfl
 have hqb:q<w.heap.size:=h.lt q (by rw [hqk];rfl)
 have hDr:∀V,Below w.heap.size w V→Calls Tryz.prog 329 #[wp (g.Q p),.int .i64 kd] V fun y w'=>(∃z,y=.returned (aI z))∧(QF w' f { D with P:=fun i=>if i=p then some (rU x kd) else D.P i } g n∧Wt (fun i=>(g.dC i).isSome=true) w w')∧w'.cell? ⟨q,0,none⟩=some (.int .i64 kd)∧w'.cell? ⟨q,5,none⟩=some (wp (g.Q p)):=fun V hV=>by
  have hV':=h.below hV
  obtain ⟨tb,tk⟩:=hV'.pipe p x hp
  refine (tb.zM kd hF.1 hF.2 hI.1 hI.2).mono ?_
  rintro y w' ⟨rfl,Zt,hg⟩
  have hb:w'.heap[q]? = w.heap[q]? := (hg.block q (Nat.lt_of_lt_of_le hqb hV.size) (fun e=>oZ hqk tk (by simp) (Option.some.inj e))).trans (hV.block q hqb)
  exact ⟨⟨_,rfl⟩,⟨hV'.piped hp (x':=rU x kd) Zt hg,(Wt.below _ hV).trans (Wt.grown hg (by rw [tk];rfl))⟩,hqc hb⟩
 have ajK:(kd == 1)=false:=by simpa using hkd
 have hIs:Calls Tryz.prog 254 #[wp q] w fun x w'=>x=.returned (.bool false)∧w'=w:=by
  go_enter Tryz.func254,Tryz.ntmps254
  go_wp2_with fail
  go_ret
  exact ⟨rfl,rfl⟩
 generalize ({ D with P:=fun i=>if i=p then some (rU x kd) else D.P i }:DS)=D2 at *
 generalize g.Q p=Q at *
 go_enter Tryz.func294,Tryz.ntmps294
 go_upto_region 2 with (go_at_call 254;refine hIs.mono ?_;rintro x w1 ⟨rfl,hw1⟩;subst w1)
 go_region_held3 (fun w'=>w'.cell? ⟨q,0,none⟩=some (.int .i64 kd)∧w'.cell? ⟨q,5,none⟩=some (wp Q)) (first|exact ⟨e0,e5⟩|exact ⟨k0,k5⟩) (first
  |(go_at_call 329;refine (hDr _ ⟨by rfl,by rfl,by rfl,by exact Nat.le_refl _,fun _ _=>by rfl⟩).mono ?_;rintro x w2 ⟨⟨z,rfl⟩,hR,k0,k5⟩))
 all_goals
  go_wp2_with fail
  go_end0
  exact ⟨rfl,hR⟩
end
section
variable {w w':World}{r gN s:Nat}{T:Wd}{Z:Int→Nat}{B G:Int→Nat}{V:Int→Value}{O:Nat→Prop}
theorem Dc (hC:∀k C,T k=some (.dir C)→C.length≤1000) (k:Int):aM T k≤64000:=by
 have h1:∀i:Int,cnt1 (T i) k≤1000:=fun i=>by
  cases e:T i with
  |none=>exact Nat.zero_le _
  |some nd=>cases nd with
   |file b x=>exact Nat.zero_le _
   |dir C=>exact Nat.le_trans (List.length_filter_le _ _) (hC i C e)
 have h2:∀m:Nat,kX T k m≤m*1000:=fun m=>by
  induction m with
  |zero=>exact Nat.le_refl _
  |succ m ih=>rw [kX];have:=h1 m;omega
 exact h2 64
theorem PT.NT (h:PT w r T O) (hT:bu T) (p:List UInt8) (hp:p.length<100000) (m:Int) (hm:w.cell? ⟨4,0,none⟩=some (.int .i64 m)) (hE:dV T p≠0) :
 Calls Tryz.prog 185 #[wp r,tx p] w fun e w'=>e=.returned (eQ (dV T p))∧Below w.heap.size w w':=by
 obtain ⟨gN,s,B,G,V,h⟩:=h
 have hs1:=h.num.pos hT.toTrOk
 unfold dV at hE ⊢
 by_cases hz:(ae T p).2.2=0
 ·rw [if_neg (fun e=>e hz)] at hE ⊢
  cases hh:og T (ae T p).1 (ae T p).2.1 with
  |none=>
   have Fu:=h.zV hT.toTrOk hs1 p hp m hm hz hh
   go_enter Tryz.func185,Tryz.ntmps185
   go_wp2_with (go_at_call 257;refine Fu.mono ?_;rintro e w1 ⟨rfl,b1⟩)
   go_ret
   refine ⟨rfl,?_⟩
   repeat first|exact b1|refine Below.alloc ?_ (by first|omega|(have:=b1.size;omega) | (simp<;>omega)) _
  |some n=>
   rw [hh] at hE
   simp only at hE ⊢
   have hmz:pR T n≠0:=fun e=>hE (by rw [if_neg (fun e'=>e' e)])
   rw [if_pos hmz]
   have Fu:=h.pz hT.toTrOk hs1 p hp m hm hz hh
   obtain ⟨D,hD⟩:∃D,T n=some (.dir D):=by
    cases e:T n with
    |none=>exact absurd (by unfold pR;rw [e]) hmz
    |some nd=>cases nd with
     |file b x=>exact absurd (by unfold pR;rw [e]) hmz
     |dir D=>exact ⟨D,rfl⟩
   have wY:D.length≠0:=by unfold pR at hmz;rw [hD] at hmz;exact hmz
   have hkey:=hT.key n (by rw [hD];rfl)
   have hwf:(Lit.int .i64 n).wf=true:=gU hkey.1 (by omega)
   have hgt:(0:Int)<(D.length:Int):=by omega
   generalize (ae T p).1=d at *
   generalize (ae T p).2.1=nm at *
   go_enter Tryz.func185,Tryz.ntmps185
   go_wp2_with (first
    |(go_at_call 257;refine Fu.mono ?_;rintro e w1 ⟨rfl,b1⟩
      have h1:=(h.below b1).below ((Below.refl _ w1).alloc (Nat.le_refl _) (.cells #[.map (some (G d)),tx nm] 283))
      have c0:=h1.c0
      have hlk:=h1.look n hwf
      rw [hD] at hlk
      simp only [Option.isSome_some,if_true] at hlk
      obtain ⟨n0,_⟩:=h1.yK hD
      have Be:=h1.ll n D hD)
    |(refine xz rfl _ 160 rfl 3 Tryz.underlying160 (G n) _ _ rfl Be ?_))
   go_ret
   refine ⟨rfl,?_⟩
   repeat first|exact b1|refine Below.alloc ?_ (by first|omega|(have:=b1.size;omega) | (simp<;>omega)) _
 ·rw [if_pos hz] at hE ⊢
  have Fu:=h.Cf hT.toTrOk hs1 p hp m hm hz
  generalize (ae T p).2.2=z at *
  go_enter Tryz.func185,Tryz.ntmps185
  go_wp2_with (go_at_call 257;refine Fu.mono ?_;rintro e w1 ⟨rfl,b1⟩)
  go_ret
  refine ⟨rfl,?_⟩
  repeat first|exact b1|refine Below.alloc ?_ (by first|omega|(have:=b1.size;omega) | (simp<;>omega)) _
theorem Ph (ty:TypeId) (w:World):(Builtin.len_ #[160] ty #[.map none]).run Tryz.prog w=.ok (.int .i64 0) w:=by kernel_rfl
end
theorem EP {T:Wd}(hT:TrOk T) {p:List UInt8}(h:dV T p=0):(ae T p).2.2=0∧isName (ae T p).2.1=true∧∃C n,T (ae T p).1=some (.dir C)∧C.lookup (ae T p).2.1=some n∧pR T n=0:=by
 unfold dV at h
 by_cases hz:(ae T p).2.2=0
 ·rw [if_neg (fun e=>e hz)] at h
  obtain ⟨⟨C,hd⟩,hnm⟩:=fu hT hz
  rw [fe hd] at h
  cases hl:C.lookup (ae T p).2.1 with
  |none=>rw [hl] at h;simp at h
  |some n=>
   rw [hl] at h
   simp only at h
   refine ⟨hz,hnm,C,n,hd,hl,?_⟩
   by_cases hm:pR T n=0
   ·exact hm
   ·rw [if_pos hm] at h;omega
 ·rw [if_pos hz] at h;exact absurd h hz
section
variable {w w':World}{r gN s:Nat}{T:Wd}{Z:Int→Nat}{B G:Int→Nat}{V:Int→Value}{O:Nat→Prop}
theorem PT.sV (h:PT w r T O) (hT:bu T) (p:List UInt8) (hp:p.length<100000) (m:Int) (hm:w.cell? ⟨4,0,none⟩=some (.int .i64 m)) (hC:∀k C,T k=some (.dir C)→C.length≤1000) (hE:dV T p=0) :
 Calls Tryz.prog 185 #[wp r,tx p] w fun e w'=>e=.returned .nilIface∧PT w' r (fF T p) O∧Stp w w' O O:=by
 obtain ⟨gN,s,B,G,V,h⟩:=h
 have hs1:=h.num.pos hT.toTrOk
 obtain ⟨hz,hnm,C,n,hd,hl,hmz⟩:=EP hT.toTrOk hE
 have hU:fF T p=iQ (aZ T (ae T p).1 (ae T p).2.1):=by unfold fF;rw [if_neg (fun e=>e hE)]
 have Fu:=h.pz hT.toTrOk hs1 p hp m hm hz (n:=n) (by rw [fe hd];exact hl)
 obtain ⟨hnd,hn0,hc1,hdn,ht⟩:=xB hT hd hl hmz
 have hcd:=EF hT.toTrOk hd hl
 have hsome:=hT.child _ C _ n hd hl
 obtain ⟨nd,hn⟩:∃nd,T n=some nd:=by
  cases e:T n with
  |none=>rw [e] at hsome;cases hsome
  |some nd=>exact ⟨nd,rfl⟩
 obtain ⟨hsw,_⟩:=ht nd hn
 rw [hU,hsw]
 have hkey:=hT.key n hsome
 have hwf:(Lit.int .i64 n).wf=true:=gU hkey.1 (by omega)
 have hcb:=Dc hC n
 have hcn:=hcd n
 rw [if_pos rfl] at hcn
 have hnl:=dU hnm
 generalize (ae T p).1=d at *
 generalize (ae T p).2.1=nm at *
 have j6:=hT.toTrOk
 -- what lies behind the place's box
 have hstep:∀w1,Below w.heap.size w w1→Calls Tryz.prog 259 #[uj (some (G d)) nm] w1 fun e w'=>(∃v,e=.returned v)∧dL w' r gN s (aZ T d nm) (aM T) B G V O∧Stp w w' O O:=fun w1 b1=>by
  have h1:=h.below b1
  refine (F6 (h1.ll d C hd) nm (by omega) (by simp only [hl,Option.map_some,Option.isSome_some])).mono ?_
  rintro e w2 ⟨hv,sm,g2⟩
  exact ⟨hv,h1.del j6 hd (by rw [hl];rfl) g2 sm,(Stp.below b1).trans (.grown g2 (h1.nT d C hd))⟩
 have hZ:∀k,(aZ T d nm k).isSome=true→(if k=n then aM (aZ T d nm) n else aM T k)=aM (aZ T d nm) k:=fun k _=>by
  by_cases e:k=n
  ·rw [if_pos e,e]
  ·rw [if_neg e];have:=hcd k;rw [if_neg e] at this;omega
 have hset:∀w2,dL w2 r gN s (aZ T d nm) (aM T) B G V O→Calls Tryz.prog 268 #[wp r,.int .i64 n] (w2.setCell ⟨B n,2,none⟩ (.int .i64 (aM (aZ T d nm) n:Int))) fun e w'=>(∃v,e=.returned v)∧PT w' r (if aM (aZ T d nm) n=0∧dZ nd=0 then pY (aZ T d nm) n else aZ T d nm) O∧Stp (w2.setCell ⟨B n,2,none⟩ (.int .i64 (aM (aZ T d nm) n:Int))) w' O O:=fun w2 h2=>by
  exact (h2.count (k:=n) (nd:=nd) (by rw [hdn];exact hn) (aM (aZ T d nm) n)).Ac n hwf (by rw [hdn];exact hn) hc1 hZ
 have hnc:∀w2,dL w2 r gN s (aZ T d nm) (aM T) B G V O→w2.cell? ⟨B n,2,none⟩=some (.int .i64 (aM T n:Int))∧w2.frozen? ⟨B n,2,none⟩=false∧O (B n):=fun w2 h2=>⟨(h2.Lv (k:=n) (nd:=nd) (by rw [hdn];exact hn)).1,h2.ru (k:=n) (nd:=nd) (by rw [hdn];exact hn) 2,h2.ownB n (by rw [hdn,hn];rfl)⟩
 have hsub:(aM T n:Int)-1=(aM (aZ T d nm) n:Int):=by omega
 have hwr:wrap64 ((aM T n:Int)-1)=(aM (aZ T d nm) n:Int):=by rw [hsub];unfold wrap64;omega
 generalize (if aM (aZ T d nm) n=0∧dZ nd=0 then pY (aZ T d nm) n else aZ T d nm)=TT at *
 have hlen:∀w1,Below w.heap.size w w1→(∃b x,nd=.file b x∧w1.cell? ⟨B n,0,none⟩=some (.map none))∨∃D,nd=.dir D∧w1.cell? ⟨B n,0,none⟩=some (.map (some (G n)))∧SMap w1 (G n) 0 (fun i=>(D.lookup i).map (.int .i64 ·)):=fun w1 b1=>by
  have h1:=h.below b1
  cases nd with
  |file b x=>exact .inl ⟨b,x,rfl,(h1.ql hn).1⟩
  |dir D=>
   have h0:D.length=0:=by unfold pR at hmz;rw [hn] at hmz;exact hmz
   have:=h1.ll n D hn
   rw [h0] at this
   exact .inr ⟨D,rfl,(h1.yK hn).1,this⟩
 have Ro:∀w1,Below w.heap.size w w1→(Instr.lookup 102 (.map (some gN)) (.int .i64 n) false).run Tryz.prog w1=.ok (wp (B n)) w1∧w1.cell? ⟨r,0,none⟩=some (.map (some gN)):=fun w1 b1=>by
  have h1:=h.below b1
  have:=h1.look n hwf
  rw [hn] at this
  simp only [Option.isSome_some,if_true] at this
  exact ⟨this,h1.c0⟩
 generalize (aM T n:Int)=ct at *
 generalize (aM (aZ T d nm) n:Int)=cd at *
 clear hcd hcb hcn hc1 hZ hl hmz hsome hdn j6 hT h hC hm hsub
 go_enter Tryz.func185,Tryz.ntmps185
 go_upto_region 2 with (go_at_call 257;refine Fu.mono ?_;rintro e w1 ⟨rfl,b1⟩)
 have bA:Below w.heap.size w (w1.alloc (.cells #[.map (some (G d)),tx nm] 283)):=b1.alloc b1.size _
 obtain ⟨hlk,c0⟩:=Ro _ bA
 have hU:=hstep _ bA
 rcases hlen _ bA with ⟨b,x,_,z0⟩|⟨D,_,z0,Be⟩
 ·have hl0:=Ph
  go_wp2_with
   (first
     |(go_at_call 259;refine hU.mono ?_;rintro e w2 ⟨⟨v,rfl⟩,h2,st2⟩;obtain ⟨y2,yf,yo⟩:=hnc w2 h2;have hS:=hset w2 h2)
     |(go_at_call 268;refine hS.mono ?_;rintro e w3 ⟨⟨v3,rfl⟩,h3,wW⟩))
  go_ret
  exact ⟨rfl,h3,(st2.trans (.cell _ yo)).trans wW⟩
 ·go_wp2_with
   (first
     |(go_at_call 259;refine hU.mono ?_;rintro e w2 ⟨⟨v,rfl⟩,h2,st2⟩;obtain ⟨y2,yf,yo⟩:=hnc w2 h2;have hS:=hset w2 h2)
     |(go_at_call 268;refine hS.mono ?_;rintro e w3 ⟨⟨v3,rfl⟩,h3,wW⟩)
     |(refine xz rfl _ 160 rfl 3 Tryz.underlying160 (G n) _ _ rfl Be ?_))
  go_ret
  exact ⟨rfl,h3,(st2.trans (.cell _ yo)).trans wW⟩
theorem PT.NS (h:PT w r T O) (hT:bu T) (p:List UInt8) (hp:p.length<100000) (m:Int) (hm:w.cell? ⟨4,0,none⟩=some (.int .i64 m)) (hC:∀k C,T k=some (.dir C)→C.length≤1000) :
 Calls Tryz.prog 185 #[wp r,tx p] w fun e w'=>e=.returned (aI (dV T p))∧PT w' r (fF T p) O∧Stp w w' O O:=by
 by_cases hE:dV T p=0
 ·rw [hE,aB]
  exact h.sV hT p hp m hm hC hE
 ·rw [ax hE,show fF T p=T by unfold fF;rw [if_pos hE]]
  refine (h.NT hT p hp m hm hE).mono ?_
  rintro e w' ⟨rfl,b⟩
  exact ⟨rfl,h.below b,.below b⟩
end
theorem tL {T:Wd}{n:Int}(hs:(T n).isSome=true) (h:¬nV T n=true):∃b x,T n=some (.file b x):=by
 unfold nV at h
 cases e:T n with
 |none=>rw [e] at hs;cases hs
 |some nd=>cases nd with
  |dir C=>rw [e] at h;exact absurd rfl h
  |file b x=>exact ⟨b,x,rfl⟩
theorem Pw {T:Wd}{n:Int}(h:nV T n=true):∃C,T n=some (.dir C):=by
 unfold nV at h
 cases e:T n with
 |none=>rw [e] at h;cases h
 |some nd=>cases nd with
  |dir C=>exact ⟨C,rfl⟩
  |file b x=>rw [e] at h;cases h
section
variable {T:Wd}
theorem Au (hT:TrOk T) {p q:List UInt8}(h:ky T p q=0):(aF T p).2=0∧(∃b x,T (aF T p).1=some (.file b x))∧(ae T q).2.2=0∧isName (ae T q).2.1=true∧∃C,T (ae T q).1=some (.dir C)∧C.lookup (ae T q).2.1=none:=by
 unfold ky at h
 by_cases hf:(aF T p).2=0
 ·rw [if_neg (fun e=>e hf)] at h
  by_cases hdr:nV T (aF T p).1=true
  ·rw [if_pos hdr] at h;omega
  ·rw [if_neg hdr] at h
   by_cases hz:(ae T q).2.2=0
   ·rw [if_neg (fun e=>e hz)] at h
    obtain ⟨⟨C,hd⟩,hnm⟩:=fu hT hz
    rw [fe hd] at h
    refine ⟨hf,tL (mH hT hf) hdr,hz,hnm,C,hd,?_⟩
    cases hl:C.lookup (ae T q).2.1 with
    |none=>rfl
    |some n=>rw [hl] at h;simp at h
   ·rw [if_pos hz] at h;exact absurd h hz
 ·rw [if_pos hf] at h;exact absurd h hf
theorem bu.add (hT:bu T) {d n:Int}{nm:Nm}{C:List (Nm×Int)}(hd:T d=some (.dir C)) (hl:C.lookup nm=none) (hnm:isName nm=true) (hn:(T n).isSome=true) (h0:n≠0):bu (gz T d nm n):=
 { toTrOk:=hT.toTrOk.add hd hl hnm hn
   nr:=by rw [qM hT.toTrOk hd,if_neg (Ne.symm h0)];exact hT.nr
   lv:=fun k nd e=>by
    rw [qM hT.toTrOk hd]
    rw [j5 hd] at e
    by_cases e1:k=d
    ·subst e1
     rw [aj] at e;cases e
     rcases hT.lv k _ hd with e2|e2|e2
     ·exact .inl e2
     ·exact .inr (.inl (by omega))
     ·exact absurd rfl e2
    ·rw [ag _ e1] at e
     rcases hT.lv k nd e with e2|e2|e2
     ·exact .inl e2
     ·exact .inr (.inl (by omega))
     ·exact .inr (.inr e2) }
theorem bu.link (hT:bu T) (p q:List UInt8):bu (kS T p q):=by
 unfold kS
 by_cases hE:ky T p q=0
 ·rw [if_neg (fun e=>e hE)]
  obtain ⟨_,⟨b,x,hn⟩,_,hnm,C,hd,hl⟩:=Au hT.toTrOk hE
  exact hT.add hd hl hnm (by rw [hn];rfl) (Ex hT.toTrOk hn)
 ·rw [if_pos hE];exact hT
end
section
variable {w w':World}{r gN s:Nat}{T:Wd}{Z:Int→Nat}{B G:Int→Nat}{V:Int→Value}{O:Nat→Prop}
theorem dL.new (h:dL w r gN s T Z B G V O) {k:Int}{b g z:Nat}{nd:Nd}(hk:T k=none) (hg:w.grownBy w' (some gN)) (pm:aK w' gN (s+1) (fun i=>if i=k then some (wp b) else (T i).map (fun _=>wp (B i))))
 (Zg:w.heap[b]? = some (.cells (eF (fun _=>g) (fun _=>.slice none 0 0) (fun _=>z) k nd) 162)) (ZA:¬O b) (hnd:(nd=.dir []∧SMap w g 0 (fun _=>none)∧¬O g)∨nd=.file [] 0) :
 dL w' r gN (s+1) (cB T k nd) (fun i=>if i=k then z else Z i) (fun i=>if i=k then b else B i) (fun i=>if i=k then g else G i) (fun i=>if i=k then .slice none 0 0 else V i) (fun i=>O i∨i=b∨(i=g∧nd=.dir [])):=by
 obtain ⟨es,cl,hm⟩:=h.map.isMap
 have hkp:∀i,i<w.heap.size→i≠gN→w'.heap[i]? = w.heap[i]? := fun i hi hne=>hg.block i hi (fun e=>hne (Option.some.inj e))
 have hbl:b<w.heap.size:=(Array.getElem?_eq_some_iff.1 Zg).1
 have hbN:b≠gN:=fun e=>ZA (by rw [e];exact h.sj)
 have hne:∀i mP,T i=some mP→i≠k:=fun i mP e e1=>by rw [e1,hk] at e;cases e
 have hold:∀i mP,cB T k nd i=some mP→(i=k∧mP=nd)∨(i≠k∧T i=some mP):=fun i mP e=>by
  by_cases e1:i=k
  ·subst e1;rw [aj] at e;cases e;exact .inl ⟨rfl,rfl⟩
  ·rw [ag _ e1] at e;exact .inr ⟨e1,e⟩
 have hsm:∀i,(cB T k nd i).isSome=true→i=k∨(i≠k∧(T i).isSome=true):=fun i e=>by
  by_cases e1:i=k
  ·exact .inl e1
  ·rw [ag _ e1] at e;exact .inr ⟨e1,e⟩
 refine ⟨(hkp r (h.lt _ h.yE) (fun e=>by rw [←e,h.head] at hm;cases hm)).trans h.head,?_,fun i mP e=>?_,fun i C e=>?_,fun i c x e=>?_,fun i C e=>?_,fun i i' C C' e e' hG=>?_,fun i i' e e' hB=>?_,.inl h.yE,.inl h.sj,fun i e=>?_,fun i C e=>?_,fun i c x j e hj=>?_,fun i hi=>?_⟩
 ·have e:(fun i=>if i=k then some (wp b) else (T i).map (fun _=>wp (B i)))=fun i=>(cB T k nd i).map (fun _=>wp (if i=k then b else B i)):=by
   funext i
   by_cases e1:i=k
   ·subst e1;rw [aj,if_pos rfl];simp
   ·rw [ag _ e1,if_neg e1];simp [e1]
  rw [e] at pm
  exact pm
 ·rcases hold i mP e with ⟨rfl,rfl⟩|⟨e1,e⟩
  ·simp only [if_true]
   have e2:eF (fun j=>if j=i then g else G j) (fun j=>if j=i then .slice none 0 0 else V j) (fun j=>if j=i then z else Z j) i mP=eF (fun _=>g) (fun _=>.slice none 0 0) (fun _=>z) i mP:=by cases mP<;>simp [eF]
   rw [e2]
   exact (hkp b hbl hbN).trans Zg
  ·simp only [if_neg e1]
   have e2:eF (fun j=>if j=k then g else G j) (fun j=>if j=k then .slice none 0 0 else V j) (fun j=>if j=k then z else Z j) i mP=eF G V Z i mP:=by cases mP<;>simp [eF,e1]
   rw [e2]
   exact (hkp _ (h.lt _ (h.ownB i (by rw [e];rfl))) (fun e3=>by rw [←e3,h.node i mP e] at hm;cases hm)).trans (h.node i mP e)
 ·rcases hold i _ e with ⟨rfl,e9⟩|⟨e1,e⟩
  ·simp only [if_true]
   rcases hnd with ⟨e8,hS,Zz⟩|e8
   ·rw [e8] at e9;cases e9
    exact hS.keep (hkp g hS.lt (fun e7=>Zz (by rw [e7];exact h.sj)))
   ·rw [e8] at e9;cases e9
  ·simp only [if_neg e1]
   exact (h.ll i C e).keep (hkp _ (h.ll i C e).lt (h.sep i C e))
 ·rcases hold i _ e with ⟨rfl,e9⟩|⟨e1,e⟩
  ·simp only [if_true]
   rcases hnd with ⟨e8,_⟩|e8
   ·rw [e8] at e9;cases e9
   ·rw [e8] at e9;cases e9;exact .inl ⟨rfl,rfl⟩
  ·simp only [if_neg e1]
   exact (h.data i c x e).grown hg (fun y hy=>by rw [qO hm] at hy;cases hy)
 ·rcases hold i _ e with ⟨rfl,e9⟩|⟨e1,e⟩
  ·simp only [if_true]
   rcases hnd with ⟨_,_,Zz⟩|e8
   ·exact fun e7=>Zz (by rw [e7];exact h.sj)
   ·rw [e8] at e9;cases e9
  ·simp only [if_neg e1]
   exact h.sep i C e
 ·have hg2:∀j D,j≠k→T j=some (.dir D)→nd=.dir []→G j≠g:=fun j D _ hj e8 e7=>by
   rcases hnd with ⟨_,_,Zz⟩|e9
   ·exact Zz (by rw [←e7];exact h.nT j D hj)
   ·rw [e9] at e8;cases e8
  have hdn:∀D,Nd.dir D=nd→nd=.dir []:=fun D e9=>by
   rcases hnd with ⟨e8,_⟩|e8
   ·exact e8
   ·rw [e8] at e9;cases e9
  rcases hold i _ e with ⟨e1,e9⟩|⟨e1,e⟩
  ·rcases hold i' _ e' with ⟨Bg,e9'⟩|⟨Bg,e'⟩
   ·rw [e1,Bg]
   ·rw [if_pos e1,if_neg Bg] at hG
    exact absurd hG.symm (hg2 i' C' Bg e' (hdn C e9))
  ·rcases hold i' _ e' with ⟨Bg,e9'⟩|⟨Bg,e'⟩
   ·rw [if_neg e1,if_pos Bg] at hG
    exact absurd hG (hg2 i C e1 e (hdn C' e9'))
   ·rw [if_neg e1,if_neg Bg] at hG
    exact h.inj i i' C C' e e' hG
 ·rcases hsm i e with e1|⟨e1,e⟩
  ·rcases hsm i' e' with Bg | ⟨Bg,e'⟩
   ·rw [e1,Bg]
   ·simp only [if_pos e1,if_neg Bg] at hB
    exact absurd (by rw [hB];exact h.ownB i' e') ZA
  ·rcases hsm i' e' with Bg | ⟨Bg,e'⟩
   ·simp only [if_neg e1,if_pos Bg] at hB
    exact absurd (by rw [←hB];exact h.ownB i e) ZA
   ·simp only [if_neg e1,if_neg Bg] at hB
    exact h.Nq i i' e e' hB
 ·rcases hsm i e with e1|⟨e1,e⟩
  ·simp only [if_pos e1];exact .inr (.inl trivial)
  ·simp only [if_neg e1];exact .inl (h.ownB i e)
 ·rcases hold i _ e with ⟨e1,e9⟩|⟨e1,e⟩
  ·simp only [if_pos e1]
   rcases hnd with ⟨e8,_⟩|e8
   ·exact .inr (.inr ⟨trivial,e8⟩)
   ·rw [e8] at e9;cases e9
  ·simp only [if_neg e1];exact .inl (h.nT i C e)
 ·rcases hold i _ e with ⟨e1,_⟩|⟨e1,e⟩
  ·simp only [if_pos e1] at hj;cases hj
  ·simp only [if_neg e1] at hj;exact .inl (h.Fz i c x j e hj)
 ·rcases hi with hi|rfl|⟨rfl,e8⟩
  ·exact Nat.lt_of_lt_of_le (h.lt i hi) hg.size
  ·exact Nat.lt_of_lt_of_le hbl hg.size
  ·rcases hnd with ⟨_,hS,_⟩|e9
   ·exact Nat.lt_of_lt_of_le hS.lt hg.size
   ·rw [e9] at e8;cases e8
theorem UW (hT:TrOk T) {k:Int}(hk:T k=none) (h0:k≠0):aM T k=0:=by
 by_cases e:aM T k=0
 ·exact e
 ·rcases (ny hT k).2 (.inr e) with e1|⟨d,C,sx,hd,hl⟩
  ·exact absurd e1 h0
  ·have:=hT.child d C sx k hd hl
   rw [hk] at this;cases this
theorem O4 (dir:Bool) (k:Int):cnt1 (some (fT dir)) k=0:=by cases dir<;>rfl
theorem CG (hT:bu T) {d k:Int}{nm:Nm}{C:List (Nm×Int)}(dir:Bool) (hd:T d=some (.dir C)) (hl:C.lookup nm=none) (hnm:isName nm=true) (hk:T k=none) (h0:0≤k) (h1:k<64) :
 d≠k∧cB T k (fT dir) d=some (.dir C)∧(∀i,aM (gz (cB T k (fT dir)) d nm k) i=if i=k then 1 else aM T i)∧bu (gz (cB T k (fT dir)) d nm k):=by
 have hdk:d≠k:=by rintro rfl;rw [hk] at hd;cases hd
 have hk0:k≠0:=by rintro rfl;obtain ⟨D,e⟩:=hT.root;rw [e] at hk;cases hk
 have hd':cB T k (fT dir) d=some (.dir C):=by rw [ag _ hdk];exact hd
 have hok:=hT.toTrOk.new hk h0 h1 dir
 have hcs:=Ff (x:=fT dir) hk (O4 dir)
 have hc:∀i,aM (gz (cB T k (fT dir)) d nm k) i=if i=k then 1 else aM T i:=fun i=>by
  rw [qM hok hd',hcs]
  by_cases e:i=k
  ·rw [if_pos e,if_pos e,e,UW hT.toTrOk hk hk0]
  ·rw [if_neg e,if_neg e,Nat.add_zero]
 refine ⟨hdk,hd',hc,?_⟩
 refine { toTrOk:=hok.add hd' hl hnm (by rw [aj];rfl),nr:=by rw [hc,if_neg (Ne.symm hk0)];exact hT.nr,lv:=fun i nd e=>?_ }
 rw [hc]
 by_cases e1:i=k
 ·rw [if_pos e1];exact .inr (.inl (by decide))
 ·rw [if_neg e1]
  rw [j5 hd'] at e
  by_cases e2:i=d
  ·subst e2
   rw [aj] at e;cases e
   rcases hT.lv i _ hd with e3|e3|e3
   ·exact .inl e3
   ·exact .inr (.inl e3)
   ·exact absurd rfl e3
  ·rw [ag _ e2,ag _ e1] at e;exact hT.lv i nd e
end
section
variable {w w':World}{r gN s:Nat}{T:Wd}{Z:Int→Nat}{B G:Int→Nat}{V:Int→Value}{O:Nat→Prop}
theorem WH (b:Nat) (w:World):(binOp BinOp.neq 100 (wp b) (.pointer none)).run Tryz.prog w=.ok (.bool true) w:=by kernel_rfl
theorem Tx (w:World):(binOp BinOp.neq 100 (.pointer none) (.pointer none)).run Tryz.prog w=.ok (.bool false) w:=by kernel_rfl
theorem dL.zi (h:dL w r gN s T Z B G V O) (hT:TrOk T) (p:List UInt8) (b:Nat) (hp:p.length<100000) (m:Int) (hm:w.cell? ⟨4,0,none⟩=some (.int .i64 m)) (hE:aY T s p≠0) :
 Calls Tryz.prog 246 #[wp r,tx p,wp b] w fun e w'=>e=.returned (.tuple #[.int .i64 0,eQ (aY T s p)])∧Below w.heap.size w w':=by
 have hs1:=h.num.pos hT
 unfold aY at hE ⊢
 by_cases hz:(ae T p).2.2=0
 ·rw [if_neg (fun e=>e hz)] at hE ⊢
  cases hh:og T (ae T p).1 (ae T p).2.1 with
  |some n=>
   rw [if_pos (show (some n).isSome=true from rfl)]
   have vQ:=h.tQ hT hs1 p hp m hm hz hh
   go_enter Tryz.func246,Tryz.ntmps246
   go_wp2_with (go_at_call 235;refine vQ.mono ?_;rintro e w1 ⟨rfl,b1⟩)
   go_ret2
   refine ⟨rfl,?_⟩
   repeat first|exact b1|refine Below.alloc ?_ (by first|omega|(have:=b1.size;omega) | (simp<;>omega)) _
  |none=>
   rw [hh] at hE
   simp only [Option.isSome_none,Bool.false_eq_true,if_false] at hE ⊢
   have h60:60≤s:=by
    by_cases e:60≤s
    ·exact e
    ·rw [if_neg e] at hE;exact absurd rfl hE
   rw [if_pos h60]
   have vQ:=h.nC hT hs1 p hp m hm hz hh
   have h6:(60:Int)≤(s:Int):=by omega
   generalize (ae T p).1=d at *
   generalize (ae T p).2.1=nm at *
   go_enter Tryz.func246,Tryz.ntmps246
   go_wp2_with (first
    |(go_at_call 235;refine vQ.mono ?_;rintro e w1 ⟨rfl,b1⟩;have h1:=h.below (b1.alloc b1.size (.cells #[.map (some (G d)),tx nm] 283));have c0:=h1.c0;have hmap:=h1.map)
    |(refine il rfl _ 102 rfl 100 Tryz.underlying102 gN _ _ rfl hmap ?_))
   go_ret2
   refine ⟨rfl,?_⟩
   repeat first|exact b1|refine Below.alloc ?_ (by first|omega|(have:=b1.size;omega) | (simp<;>omega)) _
 ·rw [if_pos hz] at hE ⊢
  have vQ:=h.zK hT hs1 p hp m hm hz
  generalize (ae T p).2.2=z at *
  go_enter Tryz.func246,Tryz.ntmps246
  go_wp2_with (go_at_call 235;refine vQ.mono ?_;rintro e w1 ⟨rfl,b1⟩)
  go_ret2
  refine ⟨rfl,?_⟩
  repeat first|exact b1|refine Below.alloc ?_ (by first|omega|(have:=b1.size;omega) | (simp<;>omega)) _
theorem Cz {b g:Nat}{k:Int}{dir:Bool}(h:w.heap[b]? = some (.cells #[if dir=true then .map (some g) else .map none,.slice none 0 0,.int .i64 0,.int .i64 0] 162)) :
 (w.setCell ⟨b,2,none⟩ (.int .i64 1)).heap[b]? = some (.cells (eF (fun _=>g) (fun _=>.slice none 0 0) (fun _=>1) k (fT dir)) 162)∧(w.cell? ⟨b,2,none⟩).isSome=true∧w.frozen? ⟨b,2,none⟩=false:=by
 refine ⟨?_,?_,by simp [World.frozen?,h]⟩
 ·rw [aS w b 2 _ _ _ _ h]
  cases dir<;>simp [eF,fT]
 ·rw [cell_of_row w b 2 _ _ _ h];rfl
theorem dL.Nb (h:dL w r gN s T (aM T) B G V O) (hT:bu T) (p:List UInt8) (b g:Nat) (dir:Bool) (hp:p.length<100000) (m:Int) (hm:w.cell? ⟨4,0,none⟩=some (.int .i64 m)) (hC:∀k C,T k=some (.dir C)→C.length≤1000)
 (hb:w.heap[b]? = some (.cells #[if dir=true then .map (some g) else .map none,.slice none 0 0,.int .i64 0,.int .i64 0] 162)) (ZA:¬O b) (hgd:dir=true→SMap w g 0 (fun _=>none)∧¬O g) (hE:aY T s p=0) :
 Calls Tryz.prog 246 #[wp r,tx p,wp b] w fun e w'=>∃k,gq T k∧k<64∧e=.returned (.tuple #[.int .i64 k,.nilIface])∧PT w' r (je T p dir k) (fun i=>O i∨i=b∨(i=g∧fT dir=.dir []))∧Wt (fun i=>O i∨i=b∨(i=g∧fT dir=.dir [])) w w':=by
 have j6:=hT.toTrOk
 have hs1:=h.num.pos j6
 have Je:=h.num
 obtain ⟨hz,⟨C,hd,hl⟩,hnm,acF⟩:=mF j6 hE
 have vQ:=h.nC j6 hs1 p hp m hm hz (by rw [fe hd];exact hl)
 have hnl:=dU hnm
 have hCl:=hC _ C hd
 have h6:¬(60:Int)≤(s:Int):=by omega
 unfold je
 generalize (ae T p).1=d at *
 generalize (ae T p).2.1=nm at *
 obtain ⟨OO,hOO⟩:∃OO:Nat→Prop,(fun i=>O i∨i=b∨(i=g∧fT dir=.dir []))=OO:=⟨_,rfl⟩
 rw [hOO]
 have hO1:∀i,O i→OO i:=fun i hi=>by rw [←hOO];exact .inl hi
 have hOb:OO b:=by rw [←hOO];exact .inr (.inl rfl)
 -- the turns, ahead of the walk
 have hput:∀(k:Int) w1,Below w.heap.size w w1→T k=none→0≤k→k<64→∃w2,(Instr.mapUpdate 102 (.map (some gN)) (.int .i64 k) (wp b)).run Tryz.prog (w1.setCell ⟨b,2,none⟩ (.int .i64 1))=.ok () w2∧
  dL w2 r gN (s+1) (cB T k (fT dir)) (fun i=>if i=k then 1 else aM T i) (fun i=>if i=k then b else B i) (fun i=>if i=k then g else G i) (fun i=>if i=k then .slice none 0 0 else V i) OO∧Wt OO w w2∧∀i,w.heap.size≤i→i<w1.heap.size→w2.heap[i]? = w1.heap[i]? := fun k w1 b1 hk h0 h1=>by
  have hbl:b<w.heap.size:=(Array.getElem?_eq_some_iff.1 hb).1
  have hb1:=(b1.block b hbl).trans hb
  obtain ⟨hnc,_,_⟩:=Cz (k:=k) hb1
  have gc:w1.grownBy (w1.setCell ⟨b,2,none⟩ (.int .i64 1)) (some b):=⟨rfl,rfl,rfl,by simp [World.setCell],fun i _ hne=>Below.heap_setCell _ _ _ _ (fun e=>hne (by rw [e]))⟩
  have h2:dL (w1.setCell ⟨b,2,none⟩ (.int .i64 1)) r gN s T (aM T) B G V O:=(h.below b1).keep (fun i hi=>gc.block i (Nat.lt_of_lt_of_le (h.lt i hi) b1.size) (fun e=>ZA (by rw [←Option.some.inj e];exact hi))) gc.size
  obtain ⟨w2,hrun,pm,g2⟩:=h2.map.put Tryz.underlying102 (by unfold maxLen;omega) k (gU h0 (by omega)) (wp b)
  rw [show ((T k).map (fun _=>wp (B k))).isSome=false by rw [hk];rfl] at pm
  simp only [Bool.false_eq_true,if_false] at pm
  refine ⟨w2,hrun,?_,?_,fun i hi hi1=>?_⟩
  ·have h3:=h2.new (nd:=fT dir) hk g2 pm hnc ZA (by
    cases dir with
    |true=>
     obtain ⟨hS,Zz⟩:=hgd rfl
     refine .inl ⟨rfl,(hS.keep (b1.block g hS.lt)).keep (Below.heap_setCell _ _ _ _ (fun e=>?_)),Zz⟩
     obtain ⟨es,cl,hm⟩:=hS.isMap
     rw [show g=b from e,hb] at hm;cases hm
    |false=>exact .inr rfl)
   rw [hOO] at h3
   exact h3
  ·refine (Wt.below _ b1).trans ((Wt.grown gc hOb).trans (.grown g2 (hO1 _ h.sj)))
  ·rw [g2.block i (by simpa using hi1) (fun e=>by have:=h.lt _ h.sj;rw [←Option.some.inj e] at this;omega)]
   exact Below.heap_setCell _ _ _ _ (by show i≠b;omega)
 have hset:∀(k:Int) w2,T k=none→0≤k→k<64→dL w2 r gN (s+1) (cB T k (fT dir)) (fun i=>if i=k then 1 else aM T i) (fun i=>if i=k then b else B i) (fun i=>if i=k then g else G i) (fun i=>if i=k then .slice none 0 0 else V i) OO→
  Calls Tryz.prog 236 #[uj (some (G d)) nm,.int .i64 k] w2 fun e w'=>(∃v,e=.returned v)∧PT w' r (gz (cB T k (fT dir)) d nm k) OO∧Wt OO w2 w':=fun k w2 hk h0 h1 h2=>by
  obtain ⟨hdk,hd',hc,_⟩:=CG hT dir hd hl hnm hk h0 h1
  have Be:=h2.ll d C hd'
  rw [if_neg hdk] at Be
  refine (Jl Be (by unfold maxLen;omega) nm (by omega) (by simp only [hl,Option.map_none]) k).mono ?_
  rintro e w3 ⟨hv,sm,g3⟩
  have h3:=h2.add (d:=d) (nm:=nm) (n:=k) hd' (w':=w3) (by rw [if_neg hdk];exact g3) (by rw [if_neg hdk];exact sm)
  exact ⟨hv,⟨gN,s+1,_,_,_,h3.as rfl (fun i _=>hc i)⟩,.grown g3 (hO1 _ (h.nT d C hd))⟩
 have aa2:∀w1,Below w.heap.size w w1→∃v,w1.cell? ⟨b,2,none⟩=some v∧w1.frozen? ⟨b,2,none⟩=false:=fun w1 b1=>by
  have hbl:b<w.heap.size:=(Array.getElem?_eq_some_iff.1 hb).1
  obtain ⟨_,hs,hf⟩:=Cz (k:=0) ((b1.block b hbl).trans hb)
  obtain ⟨v,hv⟩:=Option.isSome_iff_exists.1 hs
  exact ⟨v,hv,hf⟩
 have p1:=WH
 have p2:=Tx
 obtain ⟨C0,hroot⟩:=j6.root
 go_enter Tryz.func246,Tryz.ntmps246
 go_wp2_with (first
  |(go_at_call 235;refine vQ.mono ?_;rintro e w1 ⟨rfl,b1⟩;have b8:=b1.alloc b1.size (.cells #[.map (some (G d)),tx nm] 283);have h1:=h.below b8;have c0:=h1.c0;have hmap:=h1.map)
  |(refine il rfl _ 102 rfl 100 Tryz.underlying102 gN _ _ rfl hmap ?_))
 have q2:(w1.alloc (.cells #[.map (some (G d)),tx nm] 283)).heap[w1.heap.size]? = some (.cells #[.map (some (G d)),tx nm] 283):=World.alloc_heap_new _ _
 have q3:w1.heap.size<(w1.alloc (.cells #[.map (some (G d)),tx nm] 283)).heap.size:=by simp
 generalize w1.alloc (.cells #[.map (some (G d)),tx nm] 283)=w2 at *
 go_loopg [10] 64 (fun mm s10 wr=>∃(i:Nat),i+mm=65∧s10=.int .i64 (i:Int)∧1≤i∧i≤s∧(∀j:Nat,j<i→(T j).isSome=true)∧wr=w2)
 case atStart=>exact ⟨1,by omega,rfl,by omega,by omega,fun j hj=>by
  have:j=0:=by omega
  subst this;rw [show ((0:Nat):Int)=0 from rfl,hroot];rfl,rfl⟩
 case round=>
  obtain ⟨i,hi,rfl,hi1,his,hall,hw⟩:=hrel
  subst hw
  have hwf:(Lit.int .i64 (i:Int)).wf=true:=gU (by omega) (by omega)
  have hlk:=h1.look (i:Int) hwf
  cases hn:T (i:Int) with
  |some nd=>
   rw [hn] at hlk
   simp only [Option.isSome_some,if_true] at hlk
   have hi2:i+1≤s:=Je.free (k:=i+1) (fun j hj=>by
    by_cases e:j=i
    ·rw [e,hn];rfl
    ·exact hall j (by omega))
   go_wp2_with fail
   go_roundg (gk-1)
   case measure=>omega
   case rel=>exact ⟨i+1,by omega,by go_num,by omega,hi2,fun j hj=>by
    by_cases e:j=i
    ·rw [e,hn];rfl
    ·exact hall j (by omega),rfl⟩
  |none=>
   rw [hn] at hlk
   simp only [Option.isSome_none,Bool.false_eq_true,if_false] at hlk
   have hfree:gq T (i:Int):=⟨by omega,hn,fun j h0 h1=>by
    obtain ⟨j',rfl⟩:∃j':Nat,j=j':=⟨j.toNat,by omega⟩
    exact hall j' (by omega)⟩
   obtain ⟨w3,hrun,h3,wt3,hk3⟩:=hput (i:Int) _ b8 hn (by omega) (by omega)
   have hS:=hset (i:Int) w3 hn (by omega) (by omega) h3
   obtain ⟨vb,bc,bf⟩:=aa2 _ b8
   obtain ⟨x0,x1,_,_⟩:=aN ((hk3 _ b1.size q3).trans q2)
   have hr0:(wr.setCell ⟨b,2,none⟩ (.int .i64 1)).cell? ⟨r,0,none⟩=some (.map (some gN)):=by
    rw [World.cell?_of_block (w:=wr) (a:=⟨r,0,none⟩) (Below.heap_setCell wr ⟨b,2,none⟩ (.int .i64 1) r (fun e=>ZA ((show r=b from e) ▸ h.yE)))];exact c0
   have afI:(i:Int)<64:=by omega
   go_wp2_with (go_at_call 236;refine hS.mono ?_;rintro e w4 ⟨⟨v,rfl⟩,h4,wt4⟩)
   go_ret2
   exact ⟨(i:Int),hfree,afI,rfl,h4,wt3.trans wt4⟩
end
section
variable {w w':World}{r gN s:Nat}{T:Wd}{Z:Int→Nat}{B G:Int→Nat}{V:Int→Value}{O:Nat→Prop}
theorem CB (w:World):Calls Tryz.prog 37 #[] w fun e w'=>e=.returned (wp (w.heap.size+1))∧w'=(w.alloc (.map #[] 0)).alloc (.cells #[.map (some w.heap.size),.slice none 0 0,.int .i64 0,.int .i64 0] 162):=by
 have hmm:=@run_makeMap Tryz.prog
 go_enter Tryz.func37,Tryz.ntmps37
 go_wp2_with fail
 go_ret
 exact ⟨rfl,rfl⟩
def MkR (w:World) (r:Nat) (T:Wd) (O:Nat→Prop) (s:Nat) (p:List UInt8) (dir:Bool) (e:Ending) (w':World):Prop:=
 (aY T s p≠0∧e=.returned (.tuple #[.int .i64 0,eQ (aY T s p)])∧PT w' r T O∧Stp w w' O O)∨
 (aY T s p=0∧∃k O',gq T k∧k<64∧e=.returned (.tuple #[.int .i64 k,.nilIface])∧PT w' r (je T p dir k) O'∧Stp w w' O O')
theorem PT.Qg (h:PT w r T O) (hT:bu T) (hs:dF T s) (p:List UInt8) (hp:p.length<100000) (m:Int) (hm:w.cell? ⟨4,0,none⟩=some (.int .i64 m)) (hC:∀k C,T k=some (.dir C)→C.length≤1000) :
 Calls Tryz.prog 308 #[wp r,tx p] w (MkR w r T O s p false):=by
 obtain ⟨gN,s',B,G,V,h⟩:=h
 obtain rfl:=hs.one h.num
 have bA:Below w.heap.size w (w.alloc (.cells #[.map none,.slice none 0 0,.int .i64 0,.int .i64 0] 162)):=(Below.refl _ _).alloc (Nat.le_refl _) _
 have hA:=h.below bA
 have hmA:=aU hm bA
 by_cases hE:aY T s p=0
 ·have hAdd:=hA.Nb hT p w.heap.size 0 false hp m hmA hC (World.alloc_heap_new _ _) (fun ho=>by have:=h.lt _ ho;omega) (fun e=>by cases e) hE
  go_enter Tryz.func308,Tryz.ntmps308
  go_wp2_with (go_at_call 246;refine hAdd.mono ?_;rintro e w1 ⟨k,hk,ZU,rfl,h1,Fs⟩)
  go_ret2
  refine .inr ⟨hE,k,_,hk,ZU,rfl,h1,⟨⟨Fs.os,Fs.tape,Fs.output,Nat.le_trans bA.size Fs.size,fun i hi hn=>?_⟩,fun i hi=>?_⟩⟩
  ·refine (Fs.block i (Nat.lt_of_lt_of_le hi bA.size) (fun ho=>?_)).trans (bA.block i hi)
   rcases ho with ho|rfl|⟨_,e⟩
   ·exact hn ho
   ·omega
   ·cases e
  ·rcases hi with ho|rfl|⟨_,e⟩
   ·exact .inl ho
   ·exact .inr (Nat.le_refl _)
   ·cases e
 ·have hAdd:=hA.zi hT.toTrOk p w.heap.size hp m hmA hE
  have hfin:∀e w',e=.returned (.tuple #[.int .i64 0,eQ (aY T s p)])→Below w.heap.size w w'→MkR w r T O s p false e w':=fun e w' he b=>.inl ⟨hE,he,⟨gN,s,B,G,V,h.below b⟩,.below b⟩
  generalize aY T s p=z at *
  go_enter Tryz.func308,Tryz.ntmps308
  go_wp2_with (go_at_call 246;refine hAdd.mono ?_;rintro e w1 ⟨rfl,b1⟩)
  go_ret2
  exact hfin _ _ rfl (bA.trans (b1.mono bA.size))
def jd:Wd:=fun k=>if k=0 then some (.dir []) else none
theorem bE {k:Int}{nd:Nd}(h:jd k=some nd):k=0∧nd=.dir []:=by
 unfold jd at h
 by_cases e:k=0
 ·rw [if_pos e] at h;cases h;exact ⟨e,rfl⟩
 ·rw [if_neg e] at h;cases h
theorem Cy (k:Int):aM jd k=0:=by
 by_cases e:aM jd k=0
 ·exact e
 ·obtain ⟨i,_,hi⟩:=wS 64 e
  exfalso
  apply hi
  cases h:jd (i:Int) with
  |none=>rfl
  |some nd=>obtain ⟨_,rfl⟩:=bE h;rfl
theorem TQ:bu jd:=
 { root:=⟨[],rfl⟩
   key:=fun k h=>by
    cases e:jd k with
    |none=>rw [e] at h;cases h
    |some nd=>obtain ⟨rfl,_⟩:=bE e;omega
   nodup:=fun k C h=>by obtain ⟨_,e⟩:=bE h;cases e;exact List.nodup_nil
   child:=fun k C s n h hl=>by obtain ⟨_,e⟩:=bE h;cases e;cases hl
   name:=fun k C x h hx=>by obtain ⟨_,e⟩:=bE h;cases e;cases hx
   small:=fun k b x h=>by obtain ⟨_,e⟩:=bE h;cases e
   nr:=Cy 0
   lv:=fun k nd h=>.inl (bE h).1 }
theorem aaK (w:World):Calls Tryz.prog 17 #[] w fun e w'=>∃r O,e=.returned (wp r)∧PT w' r jd O∧Below w.heap.size w w'∧∀i,O i→w.heap.size≤i:=by
 have hmm:=@run_makeMap Tryz.prog
 have hz1:(w.alloc (.map #[] 0)).heap.size=w.heap.size+1:=by simp
 have hND:=CB (w.alloc (.map #[] 0))
 rw [hz1] at hND
 have hp0:=aK.made w
 have bA:Below w.heap.size w (((w.alloc (.map #[] 0)).alloc (.map #[] 0)).alloc (.cells #[.map (some (w.heap.size+1)),.slice none 0 0,.int .i64 0,.int .i64 0] 162)):=(((Below.refl _ _).alloc (Nat.le_refl _) _).alloc (by rw [hz1];omega) _).alloc (by simp;omega) _
 have hszA:(((w.alloc (.map #[] 0)).alloc (.map #[] 0)).alloc (.cells #[.map (some (w.heap.size+1)),.slice none 0 0,.int .i64 0,.int .i64 0] 162)).heap.size=w.heap.size+3:=by simp
 have hpA:aK (((w.alloc (.map #[] 0)).alloc (.map #[] 0)).alloc (.cells #[.map (some (w.heap.size+1)),.slice none 0 0,.int .i64 0,.int .i64 0] 162)) w.heap.size 0 (fun _=>none):=(hp0.keep (Below.heap_alloc _ _ _ (by rw [hz1];omega))).keep (Below.heap_alloc _ _ _ (by simp;omega))
 have hsA:SMap (((w.alloc (.map #[] 0)).alloc (.map #[] 0)).alloc (.cells #[.map (some (w.heap.size+1)),.slice none 0 0,.int .i64 0,.int .i64 0] 162)) (w.heap.size+1) 0 (fun _=>none):=by
  have:=SMap.made (w.alloc (.map #[] 0))
  rw [hz1] at this
  exact this.keep (Below.heap_alloc _ _ _ this.lt)
 have hnA:(((w.alloc (.map #[] 0)).alloc (.map #[] 0)).alloc (.cells #[.map (some (w.heap.size+1)),.slice none 0 0,.int .i64 0,.int .i64 0] 162)).heap[w.heap.size+2]? = some (.cells #[.map (some (w.heap.size+1)),.slice none 0 0,.int .i64 0,.int .i64 0] 162):=by
  have:=Cc (w.alloc (.map #[] 0)) (.map #[] 0) (.cells #[.map (some (w.heap.size+1)),.slice none 0 0,.int .i64 0,.int .i64 0] 162)
  rwa [hz1] at this
 generalize ((w.alloc (.map #[] 0)).alloc (.map #[] 0)).alloc (.cells #[.map (some (w.heap.size+1)),.slice none 0 0,.int .i64 0,.int .i64 0] 162)=wA at *
 obtain ⟨w1,hrun,yB,g1⟩:=hpA.put Tryz.underlying102 (by unfold maxLen;omega) 0 (by decide) (wp (w.heap.size+2))
 have hkp:∀i,i<w.heap.size+3→i≠w.heap.size→w1.heap[i]? = wA.heap[i]? := fun i hi hne=>g1.block i (by rw [hszA];exact hi) (fun e=>hne (Option.some.inj e))
 have b1:Below w.heap.size w w1:=bA.grown g1 (by omega) (fun k e=>by cases e;omega)
 have hz9:w.heap.size+3≤w1.heap.size:=by have:=g1.size;omega
 have hfin:PT (w1.alloc (.cells #[.map (some w.heap.size)] 104)) w1.heap.size jd (fun i=>w.heap.size≤i∧i<w1.heap.size+1):=by
  have hal:∀i,i<w1.heap.size→(w1.alloc (.cells #[.map (some w.heap.size)] 104)).heap[i]? = w1.heap[i]? := fun i hi=>Below.heap_alloc _ _ _ hi
  refine ⟨w.heap.size,1,fun _=>w.heap.size+2,fun _=>w.heap.size+1,fun _=>.slice none 0 0,World.alloc_heap_new _ _,?_,fun k nd e=>?_,fun k C e=>?_,fun k b x e=>?_,fun k C e=>by omega,fun k k' C C' e e' _=>?_,fun k k' e e' _=>?_,⟨by omega,by omega⟩,⟨by omega,by omega⟩,fun k _=>⟨by omega,by omega⟩,fun k C _=>⟨by omega,by omega⟩,fun k b x i e=>?_,fun i hi=>by simp;omega⟩
  ·have e:(fun i=>if i=(0:Int) then some (wp (w.heap.size+2)) else (fun _=>none) i)=fun k=>(jd k).map (fun _=>wp (w.heap.size+2)):=by
    funext i;unfold jd;by_cases e:i=0<;>simp [e]
   rw [←e]
   exact yB.keep (hal _ (by omega))
  ·obtain ⟨rfl,rfl⟩:=bE e
   rw [hal _ (by omega),hkp _ (by omega) (by omega),hnA]
   simp [eF,Cy]
  ·obtain ⟨rfl,e9⟩:=bE e
   cases e9
   exact (hsA.keep (hkp _ (by omega) (by omega))).keep (hal _ (by omega))
  ·obtain ⟨_,e9⟩:=bE e;cases e9
  ·rw [(bE e).1,(bE e').1]
  ·cases h1:jd k with
   |none=>rw [h1] at e;cases e
   |some nd=>cases h2:jd k' with
    |none=>rw [h2] at e';cases e'
    |some mP=>rw [(bE h1).1,(bE h2).1]
  ·obtain ⟨_,e9⟩:=bE e;cases e9
 have b2:Below w.heap.size w (w1.alloc (.cells #[.map (some w.heap.size)] 104)):=b1.alloc b1.size _
 go_enter Tryz.func17,Tryz.ntmps17
 go_wp2_with (go_at_call 37;refine hND.mono ?_;rintro e w' ⟨rfl,hw'⟩;subst w')
 go_ret
 exact ⟨w1.heap.size,_,rfl,hfin,b2,fun i hi=>hi.1⟩
end
def I8 (w:World) (v:Value) (l:List UInt8):Prop:=
 ∃a c,v=.slice a l.length c∧l.length≤c∧((a=none∧l=[]∧c=0)∨∃g o,a=some ⟨g,o,none⟩∧∀j (h:j<l.length),w.cell? ⟨g,o+j,none⟩=some (.int .u8 (l[j].toNat:Int)))
section
variable {w w':World}{v:Value}{l:List UInt8}
theorem Dat.rdb (h:Dat w v l):I8 w v l:=by
 rcases h with ⟨rfl,rfl⟩|⟨g,c,rfl,hc,_,hi⟩
 ·exact ⟨none,0,rfl,Nat.le_refl _,.inl ⟨rfl,rfl,rfl⟩⟩
 ·exact ⟨_,c,rfl,hc,.inr ⟨g,0,rfl,fun j hj=>by rw [Nat.zero_add];exact hi j hj⟩⟩
theorem Ec (w:World):(sizeOf 5).run Tryz.prog w=.ok 1 w:=by kernel_rfl
theorem yz:Tryz.prog.elem 34=5:=by kernel_rfl
theorem zq:Tryz.prog.underlying 34=some (.slice (Tryz.prog.elem 34)):=by rw [yz];exact Tryz.underlying34
theorem I8.from (h:I8 w v l) (k:Nat) (hk:k≤l.length):∃v',(∀W,(Instr.slice 34 v (some (.int .i64 (k:Int))) none none).run Tryz.prog W=.ok v' W)∧I8 w v' (l.drop k):=by
 obtain ⟨a,c,rfl,hc,hx⟩:=h
 refine ⟨sliced a k l.length c 1,fun W=>?_,?_⟩
 ·rw [run_slice_l (P:=Tryz.prog) W 34 a l.length c zq .i64 (k:Int) (by omega) (by omega),yz,Ec]
  simp [Result.andThen]
 ·unfold sliced
  rcases hx with ⟨rfl,rfl,rfl⟩|⟨g,o,rfl,hi⟩
  ·have:k=0:=by simpa using hk
   subst this
   exact ⟨none,0,by simp,Nat.le_refl _,.inl ⟨rfl,rfl,rfl⟩⟩
  ·by_cases e:c=k
   ·have hd:l.drop k=[]:=List.drop_eq_nil_of_le (by omega)
    rw [hd,if_pos e]
    exact ⟨some ⟨g,o,none⟩,c-k,by rw [show l.length-k=0 by omega];rfl,by simp,.inr ⟨g,o,rfl,fun j hj=>by simp at hj⟩⟩
   ·rw [if_neg e]
    refine ⟨some ⟨g,o+k,none⟩,c-k,by simp [Addr.add],by simp;omega,.inr ⟨g,o+k,rfl,fun j hj=>?_⟩⟩
    have:=hi (k+j) (by simp at hj;omega)
    rw [Nat.add_assoc,this,List.getElem_drop]
theorem I8.upto (h:I8 w v l) (k:Nat) (hk:k≤l.length):∃v',(∀W,(Instr.slice 34 v none (some (.int .i64 (k:Int))) none).run Tryz.prog W=.ok v' W)∧I8 w v' (l.take k):=by
 obtain ⟨a,c,rfl,hc,hx⟩:=h
 refine ⟨sliced a 0 k c 1,fun W=>?_,?_⟩
 ·rw [run_slice_h (P:=Tryz.prog) W 34 a l.length c zq .i64 (k:Int) (by omega) (by omega),yz,Ec]
  simp [Result.andThen]
 ·unfold sliced
  have hl:(l.take k).length=k:=by simp;omega
  rcases hx with ⟨rfl,rfl,rfl⟩|⟨g,o,rfl,hi⟩
  ·have:k=0:=by simpa using hk
   subst this
   exact ⟨none,0,by simp,Nat.le_refl _,.inl ⟨rfl,rfl,rfl⟩⟩
  ·refine ⟨some ⟨g,o,none⟩,c,?_,by rw [hl];omega,.inr ⟨g,o,rfl,fun j hj=>?_⟩⟩
   ·rw [hl];split<;>simp [Addr.add]
   ·rw [hl] at hj
    rw [hi j (by omega),List.getElem_take]
theorem I8.text (h:I8 w v l):(convert 34 9 v).run Tryz.prog w=.ok (tx l) w:=by
 obtain ⟨a,c,rfl,hc,hx⟩:=h
 rcases hx with ⟨rfl,rfl,rfl⟩|⟨g,o,rfl,hi⟩
 ·exact Lib.run_convert_nil_bytes w 34 9 5 0 Tryz.underlying34 Tryz.underlying5 Tryz.underlying9
 ·exact run_convert_bytes_back (P:=Tryz.prog) w 34 9 5 ⟨g,o,none⟩ c l Tryz.underlying34 Tryz.underlying5 Tryz.underlying9 (fun j hj=>by rw [Addr.add_lit];exact hi j hj)
theorem I8.len (h:I8 w v l):∃a c,v=.slice a l.length c:=by
 obtain ⟨a,c,rfl,_⟩:=h
 exact ⟨a,c,rfl⟩
end
section
variable {w w':World}{r gN s:Nat}{T:Wd}{Z:Int→Nat}{B G:Int→Nat}{V:Int→Value}{O:Nat→Prop}
theorem Mv (ts:Array TypeId) (ty:TypeId) (x y:Int) (k:Nat) (h:(k:Int)=min x y) (W:World):(Builtin.min_ ts ty #[.int .i64 x,.int .i64 y]).run Tryz.prog W=.ok (.int .i64 (k:Int)) W:=by
 rw [run_min_int2]
 congr 2
 by_cases e:y<x
 ·rw [if_pos e];omega
 ·rw [if_neg e];omega
theorem PT.Eg (h:PT w r T O) (n a mm:Int) (hw:(Lit.int .i64 n).wf=true) :
 Calls Tryz.prog 256 #[wp r,.int .i64 n,.int .i64 a,.int .i64 mm] w fun e w'=>e=.returned (.tuple #[tx (eU T n a mm),aI (jy T n a mm)])∧∃q,w'=w.drewN q:=by
 obtain ⟨gN,s,B,G,V,h⟩:=h
 by_cases hz:bF T n=0
 ·obtain ⟨b,x,hn⟩:=mJ hz
  have hF:=h.nD n hw hn
  obtain ⟨_,n1,_⟩:=h.ql hn
  have hD:=(h.data n b x hn).rdb
  generalize V n=v at *
  by_cases ha:a<0
  ·have e1:jy T n a mm=2:=by unfold jy;rw [if_neg (fun e=>e hz),if_pos (.inl ha)]
   have e2:eU T n a mm=[]:=by unfold eU;rw [hn];simp only;rw [if_pos (.inl ha)]
   rw [e1,e2]
   go_enter Tryz.func256,Tryz.ntmps256
   go_wp2_with (go_at_call 234;refine hF.mono ?_;rintro e w' ⟨rfl,hw'⟩;subst w')
   go_ret2
   exact ⟨rfl,0,rfl⟩
  ·by_cases hm:mm<0
   ·have e1:jy T n a mm=2:=by unfold jy;rw [if_neg (fun e=>e hz),if_pos (.inr hm)]
    have e2:eU T n a mm=[]:=by unfold eU;rw [hn];simp only;rw [if_pos (.inr hm)]
    rw [e1,e2]
    go_enter Tryz.func256,Tryz.ntmps256
    go_wp2_with (go_at_call 234;refine hF.mono ?_;rintro e w' ⟨rfl,hw'⟩;subst w')
    go_ret2
    exact ⟨rfl,0,rfl⟩
   ·have e1:jy T n a mm=0:=by unfold jy;rw [if_neg (fun e=>e hz),if_neg (by omega)]
    obtain ⟨k1,hk1⟩:∃k1,min a.toNat b.length=k1:=⟨_,rfl⟩
    obtain ⟨k2,hk2⟩:∃k2,min mm.toNat (b.length-k1)=k2:=⟨_,rfl⟩
    have e2:eU T n a mm=(b.drop k1).take k2:=by
     unfold eU;rw [hn];simp only;rw [if_neg (by omega),←hk2,←hk1]
     by_cases e:a.toNat≤b.length
     ·rw [Nat.min_eq_left e]
      by_cases e':mm.toNat≤b.length-a.toNat
      ·rw [Nat.min_eq_left e']
      ·rw [Nat.min_eq_right (by omega),List.take_of_length_le (by simp;omega),List.take_of_length_le (by simp)]
     ·rw [show min a.toNat b.length=b.length by omega,List.drop_eq_nil_of_le (show b.length≤a.toNat by omega),List.drop_length];simp
    rw [e1,e2,aB]
    obtain ⟨v1,r1,d1⟩:=hD.from k1 (by omega)
    obtain ⟨v2,r2,d2⟩:=d1.upto k2 (by simp;omega)
    have m1:=fun ts ty=>Mv ts ty a (b.length:Int) k1 (by omega)
    have m2:=fun ts ty=>Mv ts ty mm ((b.length-k1:Nat):Int) k2 (by omega)
    have tq:(convert 34 9 v2).run Tryz.prog w.drew=.ok (tx ((b.drop k1).take k2)) w.drew:=I8.text (w:=w.drew) d2
    obtain ⟨A,c,rfl⟩:=hD.len
    obtain ⟨A1,c1,e3⟩:=d1.len
    rw [List.length_drop] at e3
    subst e3
    generalize (b.drop k1).take k2=res at *
    generalize b.length-k1=L1 at *
    go_enter Tryz.func256,Tryz.ntmps256
    go_wp2_with (go_at_call 234;refine hF.mono ?_;rintro e w' ⟨rfl,hw'⟩;subst w')
    go_region
    go_wp2_with fail
    go_ret2
    exact ⟨rfl,1,rfl⟩
 ·have hF:=h.kI n hw hz
  have e1:jy T n a mm=bF T n:=by unfold jy;rw [if_pos hz]
  have e2:eU T n a mm=[]:=by
   unfold eU
   cases hn:T n with
   |none=>rfl
   |some nd=>cases nd with
    |dir C=>rfl
    |file b x=>exact absurd (by unfold bF;rw [hn]) hz
  rw [e1,e2,ax hz]
  generalize bF T n=z at *
  go_enter Tryz.func256,Tryz.ntmps256
  go_wp2_with (go_at_call 234;refine hF.mono ?_;rintro e w' ⟨rfl,hw'⟩;subst w')
  go_ret2
  exact ⟨rfl,0,rfl⟩
end
section
variable {w w':World}{v:Value}{l:List UInt8}
theorem Va (w:World) (N:Nat) (hN:N≤1000):∃w',(Instr.makeSlice 34 (.int .i64 (N:Int)) (.int .i64 (N:Int))).run Tryz.prog w=.ok (.slice (some ⟨w.heap.size,0,none⟩) N N) w'∧Vn w' w.heap.size (.slice (some ⟨w.heap.size,0,none⟩) N N) (List.replicate N 0)∧Below w.heap.size w w':=by
 obtain ⟨i,hi,hz,hs,hb⟩:=info_parts (P:=Tryz.prog) (e:=5) (z:=.int .u8 0) (size:=1) (bytes:=1) (by kernel_rfl)
 have hr:=run_make (P:=Tryz.prog) w 34 5 i _ Tryz.underlying34 hi hz .i64 .i64 (N:Int) (N:Int) (by omega) (by omega) (by rw [hb];omega) (by omega)
 rw [hs,Int.toNat_natCast,Nat.mul_one] at hr
 refine ⟨_,hr,?_,(Below.refl _ _).alloc (Nat.le_refl _) _⟩
 have hnew:(w.alloc (.cells (madeCells (Value.int .u8 0).cells N) 5)).heap[w.heap.size]? = some (.cells (madeCells (Value.int .u8 0).cells N) 5):=World.alloc_heap_new _ _
 have hsz:(madeCells (Value.int .u8 0).cells N).size=N:=size_madeCells _ _
 have hel:∀j (hj:j<N),(madeCells (Value.int .u8 0).cells N)[j]? = some (.int .u8 0):=fun j hj=>by
  simp [madeCells,Value.cells,hj,Nat.mod_one]
 refine ⟨w.heap.size,N,by simp,Nat.le_refl _,by simp,by simp,fun j hj=>?_,fun j hj=>⟨?_,?_⟩⟩
 ·rw [cell_of_row _ _ j _ _ _ hnew,hel j (by simpa using hj)];simp
 ·rw [cell_of_row _ _ j _ _ _ hnew,hel j hj];rfl
 ·unfold World.frozen?
  simp only [hnew]
  simp
theorem Vn.adG {g cap B:Nat}{b:List UInt8}{u:Value}(h:Vn w B (.slice (some ⟨g,0,none⟩) l.length cap) l) (hr:I8 w u b) (hb:b.length≤l.length) (ty:TypeId) :
 (Builtin.copy_ #[34,34] ty #[.slice (some ⟨g,0,none⟩) l.length cap,u]).run Tryz.prog w=.ok (.int .i64 (b.length:Int)) (w.setCells g 0 (IP b)):=by
 obtain ⟨g',cap',e,hB,hlt,hcap,h1,h2⟩:=h
 cases e
 obtain ⟨a,c,rfl,hc,hx⟩:=hr
 have hu:(IP b).length=b.length:=by unfold IP;rw [List.length_map]
 have hsz:(Tryz.prog.info? 5).map (·.size)=some 1:=by kernel_rfl
 rcases hx with ⟨rfl,rfl,rfl⟩|⟨g2,o,rfl,hi⟩
 ·exact run_copy_none (P:=Tryz.prog) w 34 34 ty 5 _ none l.length cap 0 0 Tryz.underlying34 hsz (Nat.zero_min _)
 ·have:=run_copy_cells (P:=Tryz.prog) w 34 34 ty 5 g 0 l.length cap ⟨g2,o,none⟩ b.length c (IP b) Tryz.underlying34 hsz (by rw [hu];exact (Nat.min_eq_left hb).symm) (fun j x hj=>by
   obtain ⟨hjl,rfl⟩:=V5 hj
   rw [Addr.add_lit];exact hi j hjl) (fun j hj=>(h2 _ (by rw [hu] at hj;omega)).1) (fun j hj=>(h2 _ (by rw [hu] at hj;omega)).2) (fun x hx=>by
   unfold IP at hx
   obtain ⟨y,_,rfl⟩:=List.mem_map.1 hx
   rfl)
  rw [hu] at this
  exact this
theorem Vn.dat {B:Nat}(h:Vn w B v l):Dat w v l:=by
 obtain ⟨g,cap,rfl,_,hlt,hc,h1,_⟩:=h
 exact .inr ⟨g,cap,rfl,hc,hlt,h1⟩
end
theorem Xp (ts:Array TypeId) (ty:TypeId) (x y:Int) (k:Nat) (h:(k:Int)=max x y) (W:World):(Builtin.max_ ts ty #[.int .i64 x,.int .i64 y]).run Tryz.prog W=.ok (.int .i64 (k:Int)) W:=by
 rw [run_max_int2]
 congr 2
 by_cases e:y > x
 ·rw [if_pos e];omega
 ·rw [if_neg e];omega
theorem Ho {w:World}{u:Value}{b x:List UInt8}(hd:I8 w u b) (YL:∀g o l c,u=.slice (some ⟨g,o,none⟩) l c→g<w.heap.size) (a:Nat) (hx:x≠[]) (hb:b.length≤256) (hax:a+x.length≤200) :
 ∃N w1 w2 w3,max b.length (a+x.length)=N∧(Instr.makeSlice 34 (.int .i64 (N:Int)) (.int .i64 (N:Int))).run Tryz.prog w=.ok (.slice (some ⟨w.heap.size,0,none⟩) N N) w1∧
  (∀ty,(Builtin.copy_ #[34,34] ty #[.slice (some ⟨w.heap.size,0,none⟩) N N,u]).run Tryz.prog w1=.ok (.int .i64 (b.length:Int)) w2)∧
  (∀W,(Instr.slice 34 (.slice (some ⟨w.heap.size,0,none⟩) N N) (some (.int .i64 (a:Int))) none none).run Tryz.prog W=.ok (.slice (some ⟨w.heap.size,a,none⟩) (N-a) (N-a)) W)∧
  (∀ty,(Builtin.copy_ #[34,9] ty #[.slice (some ⟨w.heap.size,a,none⟩) (N-a) (N-a),tx x]).run Tryz.prog w2=.ok (.int .i64 (x.length:Int)) w3)∧
  Dat w3 (.slice (some ⟨w.heap.size,0,none⟩) N N) (FL b a x)∧Below w.heap.size w w1∧Below w.heap.size w w2∧Below w.heap.size w w3:=by
 have hxl:1≤x.length:=List.length_pos_iff.2 hx
 obtain ⟨N,hN⟩:∃N,max b.length (a+x.length)=N:=⟨_,rfl⟩
 obtain ⟨w1,hmk,hz,b1⟩:=Va w N (by omega)
 have hlen:(List.replicate N (0:UInt8)).length=N:=List.length_replicate
 have hz':Vn w1 w.heap.size (.slice (some ⟨w.heap.size,0,none⟩) (List.replicate N (0:UInt8)).length N) (List.replicate N 0):=by rw [hlen];exact hz
 have hr1:I8 w1 u b:=by
  obtain ⟨aa,c,rfl,hc,hx⟩:=hd
  refine ⟨aa,c,rfl,hc,?_⟩
  rcases hx with h|⟨g,o,rfl,hi⟩
  ·exact .inl h
  ·exact .inr ⟨g,o,rfl,fun j hj=>by rw [b1.cell (p:=⟨g,o+j,none⟩) (YL _ _ _ _ rfl)];exact hi j hj⟩
 have hc1:=fun ty=>hz'.adG hr1 (by rw [hlen];omega) ty
 rw [hlen] at hc1
 have k1:=(hz'.copy rfl 0 b (by rw [hlen];omega) 3).2.1
 have afC:(List.replicate N (0:UInt8)).take 0 ++ b ++ (List.replicate N (0:UInt8)).drop (0+b.length)=Du b (a+x.length):=by
  unfold Du
  simp only [List.take_zero,List.nil_append,Nat.zero_add,List.drop_replicate]
  rw [show N-b.length=a+x.length-b.length by omega]
 rw [afC,hlen] at k1
 have hpl:(Du b (a+x.length)).length=N:=by rw [Gs];exact hN
 have k1':Vn (w1.setCells w.heap.size 0 (IP b)) w.heap.size (.slice (some ⟨w.heap.size,0,none⟩) (Du b (a+x.length)).length N) (Du b (a+x.length)):=by rw [hpl];exact k1
 have k2:=fun ty=>k1'.copy rfl a x (by rw [hpl];omega) ty
 rw [hpl] at k2
 refine ⟨N,w1,_,_,hN,hmk,hc1,fun W=>?_,fun ty=>(k2 ty).1,(k2 3).2.1.dat,b1,gD (Nat.le_refl _) _ _ _ b1,gD (Nat.le_refl _) _ _ _ (gD (Nat.le_refl _) _ _ _ b1)⟩
 rw [run_slice_l (P:=Tryz.prog) W 34 _ N N zq .i64 (a:Int) (by omega) (by omega),yz,Ec]
 have hne:¬N=a:=by omega
 simp [Result.andThen,sliced,hne,Addr.add]
 omega
section
variable {w w':World}{r gN s:Nat}{T:Wd}{Z:Int→Nat}{B G:Int→Nat}{V:Int→Value}{O:Nat→Prop}
theorem PT.zk (h:PT w r T O) (hT:bu T) (n a:Int) (x:List UInt8) (hw:(Lit.int .i64 n).wf=true) (hxl:x.length<100000) :
 Calls Tryz.prog 273 #[wp r,.int .i64 n,.int .i64 a,tx x] w fun e w'=>e=.returned (aI (cZ T n a x))∧∃O',PT w' r (gp T n a x) O'∧Stp w w' O O':=by
 have hfin:cZ T n a x≠0∨x=[]→∃O',PT w r (gp T n a x) O'∧Stp w w O O':=fun hh=>⟨O,by unfold gp;rw [if_pos hh];exact h,.refl _ _⟩
 obtain ⟨gN,s,B,G,V,h⟩:=h
 by_cases hz:bF T n=0
 ·obtain ⟨b,y,hn⟩:=mJ hz
  have hF:=h.nD n hw hn
  obtain ⟨_,n1,_⟩:=h.ql hn
  have nf:=h.ru hn 1
  have hEq:cZ T n a x=if a<0 then 2 else if 200-(x.length:Int)<a then 4 else 0:=by
   unfold cZ;rw [if_neg (fun e=>e hz)]
   by_cases ha:a<0
   ·rw [if_pos ha,if_pos ha]
   ·rw [if_neg ha,if_neg ha]
    by_cases hl:200-(x.length:Int)<a
    ·rw [if_pos (.inr hl),if_pos hl]
    ·rw [if_neg hl,if_neg (fun e=>by rcases e with e|e<;>omega)]
  have hwr:wrap64 (200-(x.length:Int))=200-(x.length:Int):=by unfold wrap64;omega
  by_cases ha:a<0
  ·rw [if_pos ha] at hEq
   rw [hEq]
   have hf:=hfin (.inl (by rw [hEq];decide))
   go_enter Tryz.func273,Tryz.ntmps273
   go_wp2_with (go_at_call 234;refine hF.mono ?_;rintro e w' ⟨rfl,hw'⟩;subst w')
   go_ret
   exact ⟨rfl,hf⟩
  ·rw [if_neg ha] at hEq
   by_cases hl:200-(x.length:Int)<a
   ·rw [if_pos hl] at hEq
    rw [hEq]
    have hf:=hfin (.inl (by rw [hEq];decide))
    go_enter Tryz.func273,Tryz.ntmps273
    go_wp2_with (go_at_call 234;refine hF.mono ?_;rintro e w' ⟨rfl,hw'⟩;subst w')
    go_ret
    exact ⟨rfl,hf⟩
   ·rw [if_neg hl] at hEq
    rw [hEq,aB]
    by_cases hx:x=[]
    ·have hf:=hfin (.inr hx)
     subst hx
     go_enter Tryz.func273,Tryz.ntmps273
     go_wp2_with (go_at_call 234;refine hF.mono ?_;rintro e w' ⟨rfl,hw'⟩;subst w')
     go_ret
     exact ⟨rfl,hf⟩
    ·have hxe:(x == [])=false:=by simp [hx]
     obtain ⟨A,rfl⟩:∃A:Nat,a=A:=⟨a.toNat,by omega⟩
     have hsm:=hT.small n b y hn
     have hdat:=h.data n b y hn
     obtain ⟨N,w1,w2,w3,hN,hmk,hc1,hsl,hc2,hd3,b1,b2,b3⟩:=Ho hdat.rdb (fun g o l c e=>hdat.lt (i:=g) (by rw [e];rfl)) A hx hsm.1 (by omega)
     obtain ⟨u0,c0,hv⟩:=hdat.len
     have m1:=fun ts ty=>Xp ts ty (b.length:Int) ((A:Int)+(x.length:Int)) N (by omega)
     have hwr2:wrap64 ((A:Int)+(x.length:Int))=(A:Int)+(x.length:Int):=by unfold wrap64;omega
     have h3:=h.below b3
     obtain ⟨V',O',h4,hO'⟩:=h3.bytes hn hd3
     have hU:gp T n (A:Int) x=cB T n (.file (FL b A x) y):=by
      unfold gp;rw [if_neg (fun e=>e.elim (fun e=>e hEq) hx),hn]
      simp
     have adu:∃O',PT (w3.setCell ⟨B n,1,none⟩ (.slice (some ⟨w.heap.size,0,none⟩) N N)) r (gp T n (A:Int) x) O'∧Stp w (w3.setCell ⟨B n,1,none⟩ (.slice (some ⟨w.heap.size,0,none⟩) N N)) O O':=by
      rw [hU]
      refine ⟨O',⟨gN,s,B,G,V',h4.as rfl (fun k _=>kJ hn k)⟩,((Stp.below b3).trans (.cell _ (h.ownB n (by rw [hn];rfl)))).wt,fun i hi=>?_⟩
      rcases (hO' i).1 hi with e|e
      ·exact .inl e
      ·right;cases e;exact Nat.le_refl _
     have c1:w1.cell? ⟨B n,1,none⟩=some (.slice u0 b.length c0):=by rw [b1.cell (p:=⟨B n,1,none⟩) (h.lt _ (h.ownB n (by rw [hn];rfl)))];rw [n1,hv]
     have f3:=h3.ru hn 1
     have c3:=(h3.ql hn).2.1
     rw [hv] at n1 hc1 c3
     go_enter Tryz.func273,Tryz.ntmps273
     go_wp2_with (go_at_call 234;refine hF.mono ?_;rintro e w' ⟨rfl,hw'⟩;subst w')
     go_ret
     exact ⟨rfl,adu⟩
 ·have hF:=h.kI n hw hz
  have hEq:cZ T n a x=bF T n:=by unfold cZ;rw [if_pos hz]
  have hf:=hfin (.inl (by rw [hEq];exact hz))
  rw [hEq,ax hz]
  generalize bF T n=z at *
  go_enter Tryz.func273,Tryz.ntmps273
  go_wp2_with (go_at_call 234;refine hF.mono ?_;rintro e w' ⟨rfl,hw'⟩;subst w')
  go_ret
  exact ⟨rfl,hf⟩
end
section
variable {w w':World}{r gN s:Nat}{T:Wd}{Z:Int→Nat}{B G:Int→Nat}{V:Int→Value}{O:Nat→Prop}
theorem PT.XB (h:PT w r T O) (hT:bu T) (p q:List UInt8) (hp:p.length<100000) (hq:q.length<100000) (m:Int) (hm:w.cell? ⟨4,0,none⟩=some (.int .i64 m)) (hE:ky T p q≠0) :
 Calls Tryz.prog 164 #[wp r,tx p,tx q] w fun e w'=>e=.returned (eQ (ky T p q))∧Below w.heap.size w w':=by
 obtain ⟨gN,s,B,G,V,h⟩:=h
 have hs1:=h.num.pos hT.toTrOk
 have hF:=h.find_ok hT.toTrOk hs1 p hp m hm
 have hsome:=mH hT.toTrOk (p:=p)
 unfold ky at hE ⊢
 by_cases hf:(aF T p).2=0
 ·rw [if_neg (fun e=>e hf)] at hE ⊢
  have hs:=hsome hf
  have hkey:=hT.key _ hs
  have hwf:(Lit.int .i64 (aF T p).1).wf=true:=gU hkey.1 (by omega)
  rw [hf,aB] at hF
  generalize (aF T p).1=n at *
  by_cases hdr:nV T n=true
  ·rw [if_pos hdr] at hE ⊢
   obtain ⟨C,hC⟩:=Pw hdr
   have e6:bF T n=6:=by unfold bF;rw [hC]
   have QH:=fun w1 (b1:Below w.heap.size w w1)=>(h.below b1).kI n hwf (by rw [e6];decide)
   rw [e6] at QH
   go_enter Tryz.func164,Tryz.ntmps164
   go_wp2_with (first
    |(go_at_call 233;refine hF.mono ?_;rintro e w1 ⟨rfl,b1⟩;have Jg:=QH w1 b1)
    |(go_at_call 234;refine Jg.mono ?_;rintro e w' ⟨rfl,hw'⟩;subst w'))
   go_ret
   exact ⟨rfl,b1⟩
  ·rw [if_neg hdr] at hE ⊢
   obtain ⟨b,x,hn⟩:=tL hs hdr
   have QH:=fun w1 (b1:Below w.heap.size w w1)=>(h.below b1).nD n hwf hn
   by_cases hz:(ae T q).2.2=0
   ·rw [if_neg (fun e=>e hz)] at hE ⊢
    cases hh:og T (ae T q).1 (ae T q).2.1 with
    |none=>rw [hh] at hE;exact absurd (by simp) hE
    |some n'=>
     rw [show (if (some n').isSome=true then (9:Int) else 0)=9 from rfl]
     have vQ:=fun w1 (b1:Below w.heap.size w w1)=>(h.below b1).tQ hT.toTrOk hs1 q hq m (aU hm b1) hz hh
     go_enter Tryz.func164,Tryz.ntmps164
     go_wp2_with (first
      |(go_at_call 233;refine hF.mono ?_;rintro e w1 ⟨rfl,b1⟩;have Jg:=QH w1 b1;have vR:=vQ w1 b1)
      |(go_at_call 234;refine Jg.mono ?_;rintro e w' ⟨rfl,hw'⟩;subst w')
      |(go_at_call 235;refine vR.mono ?_;rintro e w2 ⟨rfl,b2⟩))
     go_ret
     have b9:Below w.heap.size w w2:=b1.trans (b2.mono b1.size)
     refine ⟨rfl,?_⟩
     repeat first|exact b9|refine Below.alloc ?_ (by first|omega|(have:=b9.size;omega) | (simp<;>omega)) _
   ·rw [if_pos hz] at hE ⊢
    have vQ:=fun w1 (b1:Below w.heap.size w w1)=>(h.below b1).zK hT.toTrOk hs1 q hq m (aU hm b1) hz
    generalize (ae T q).2.2=z at *
    go_enter Tryz.func164,Tryz.ntmps164
    go_wp2_with (first
     |(go_at_call 233;refine hF.mono ?_;rintro e w1 ⟨rfl,b1⟩;have Jg:=QH w1 b1;have vR:=vQ w1 b1)
     |(go_at_call 234;refine Jg.mono ?_;rintro e w' ⟨rfl,hw'⟩;subst w')
     |(go_at_call 235;refine vR.mono ?_;rintro e w2 ⟨rfl,b2⟩))
    go_ret
    have b9:Below w.heap.size w w2:=b1.trans (b2.mono b1.size)
    refine ⟨rfl,?_⟩
    repeat first|exact b9|refine Below.alloc ?_ (by first|omega|(have:=b9.size;omega) | (simp<;>omega)) _
 ·rw [if_pos hf] at hE ⊢
  rw [ax hf] at hF
  generalize (aF T p).2=z at *
  generalize (aF T p).1=n at *
  go_enter Tryz.func164,Tryz.ntmps164
  go_wp2_with (go_at_call 233;refine hF.mono ?_;rintro e w1 ⟨rfl,b1⟩)
  go_ret
  exact ⟨rfl,b1⟩
theorem PT.zG (h:PT w r T O) (hT:bu T) (p q:List UInt8) (hp:p.length<100000) (hq:q.length<100000) (m:Int) (hm:w.cell? ⟨4,0,none⟩=some (.int .i64 m)) (hC:∀k C,T k=some (.dir C)→C.length≤1000) (hE:ky T p q=0) :
 Calls Tryz.prog 164 #[wp r,tx p,tx q] w fun e w'=>e=.returned .nilIface∧PT w' r (kS T p q) O∧Stp w w' O O:=by
 obtain ⟨gN,s,B,G,V,h⟩:=h
 have hs1:=h.num.pos hT.toTrOk
 have j6:=hT.toTrOk
 have hF:=h.find_ok j6 hs1 p hp m hm
 obtain ⟨hf,⟨b,x,hn⟩,hz,hnm,C,hd,hl⟩:=Au j6 hE
 have hU:kS T p q=gz T (ae T q).1 (ae T q).2.1 (aF T p).1:=by unfold kS;rw [if_neg (fun e=>e hE)]
 have hkey:=hT.key _ (show (T (aF T p).1).isSome=true by rw [hn];rfl)
 have hwf:(Lit.int .i64 (aF T p).1).wf=true:=gU hkey.1 (by omega)
 have QH:=fun w1 (b1:Below w.heap.size w w1)=>(h.below b1).nD _ hwf hn
 have vQ:=fun w1 (b1:Below w.heap.size w w1)=>(h.below b1).nC j6 hs1 q hq m (aU hm b1) hz (by rw [fe hd];exact hl)
 have hcb:=Dc hC (aF T p).1
 have hnl:=dU hnm
 have hCl:=hC _ C hd
 rw [hf,aB] at hF
 rw [hU]
 generalize (ae T q).1=d at *
 generalize (ae T q).2.1=nm at *
 generalize (aF T p).1=n at *
 have hca:=qM j6 (nm:=nm) (n:=n) hd
 have hnd:n≠d:=by rintro rfl;rw [hd] at hn;cases hn
 have Li:gz T d nm n n=some (.file b x):=by rw [j5 hd,ag _ hnd];exact hn
 have hstep:∀w1,Below w.heap.size w w1→Calls Tryz.prog 236 #[uj (some (G d)) nm,.int .i64 n] w1 fun e w'=>(∃v,e=.returned v)∧dL w' r gN s (gz T d nm n) (aM T) B G V O∧Stp w w' O O:=fun w1 b1=>by
  have h1:=h.below b1
  refine (Jl (h1.ll d C hd) (by unfold maxLen;omega) nm (by omega) (by simp only [hl,Option.map_none]) n).mono ?_
  rintro e w2 ⟨hv,sm,g2⟩
  exact ⟨hv,h1.add hd g2 sm,(Stp.below b1).trans (.grown g2 (h1.nT d C hd))⟩
 have hcn:=hca n
 rw [if_pos rfl] at hcn
 have hfin:∀w2,dL w2 r gN s (gz T d nm n) (aM T) B G V O→PT (w2.setCell ⟨B n,2,none⟩ (.int .i64 (aM (gz T d nm n) n:Int))) r (gz T d nm n) O:=fun w2 h2=>
  ⟨gN,s,B,G,V,(h2.count Li (aM (gz T d nm n) n)).as rfl (fun k _=>by
   by_cases e:k=n
   ·rw [if_pos e,e]
   ·rw [if_neg e];have:=hca k;rw [if_neg e] at this;omega)⟩
 have hnc:∀w2,dL w2 r gN s (gz T d nm n) (aM T) B G V O→w2.cell? ⟨B n,2,none⟩=some (.int .i64 (aM T n:Int))∧w2.frozen? ⟨B n,2,none⟩=false∧O (B n):=fun w2 h2=>⟨(h2.Lv Li).1,h2.ru Li 2,h2.ownB n (by rw [Li];rfl)⟩
 have hsub:(aM T n:Int)+1=(aM (gz T d nm n) n:Int):=by omega
 have hwr:wrap64 ((aM T n:Int)+1)=(aM (gz T d nm n) n:Int):=by rw [hsub];unfold wrap64;omega
 generalize (aM T n:Int)=ct at *
 generalize (aM (gz T d nm n) n:Int)=cd at *
 generalize gz T d nm n=TT at *
 clear hca hcb hcn j6 hT h hC hm hsub Li hCl
 go_enter Tryz.func164,Tryz.ntmps164
 go_wp2_with (first
  |(go_at_call 233;refine hF.mono ?_;rintro e w1 ⟨rfl,b1⟩;have Jg:=QH w1 b1;have vR:=vQ w1 b1)
  |(go_at_call 234;refine Jg.mono ?_;rintro e w' ⟨rfl,hw'⟩;subst w')
  |(go_at_call 235;refine vR.mono ?_;rintro e w2 ⟨rfl,b2⟩;have b9:Below w.heap.size w (w2.alloc (.cells #[.map (some (G d)),tx nm] 283)):=(b1.trans (b2.mono b1.size)).alloc (Nat.le_trans b1.size b2.size) _;have hS:=hstep _ b9)
  |(go_at_call 236;refine hS.mono ?_;rintro e w3 ⟨⟨v,rfl⟩,h3,wW⟩;obtain ⟨y2,yf,yo⟩:=hnc w3 h3))
 go_ret
 exact ⟨rfl,hfin _ h3,wW.trans (.cell _ yo)⟩
theorem PT.XA (h:PT w r T O) (hT:bu T) (p q:List UInt8) (hp:p.length<100000) (hq:q.length<100000) (m:Int) (hm:w.cell? ⟨4,0,none⟩=some (.int .i64 m)) (hC:∀k C,T k=some (.dir C)→C.length≤1000) :
 Calls Tryz.prog 164 #[wp r,tx p,tx q] w fun e w'=>e=.returned (aI (ky T p q))∧PT w' r (kS T p q) O∧Stp w w' O O:=by
 by_cases hE:ky T p q=0
 ·rw [hE,aB]
  exact h.zG hT p q hp hq m hm hC hE
 ·rw [ax hE,show kS T p q=T by unfold kS;rw [if_pos hE]]
  refine (h.XB hT p q hp hq m hm hE).mono ?_
  rintro e w' ⟨rfl,b⟩
  exact ⟨rfl,h.below b,.below b⟩
end
theorem Ag (p q:List UInt8) (w:World) :
 Calls Tryz.prog 258 #[tx p,tx q] w fun e w'=>e=.returned (.bool (q.isPrefixOf p))∧w'=w:=
 Any.strings_HasPrefix Tryz.prefixUL ⟨p.toArray⟩ ⟨q.toArray⟩ w
theorem vB {T:Wd}(hT:TrOk T) {p q:List UInt8}(h:eZ T p q=0):(ae T p).2.2=0∧isName (ae T p).2.1=true∧(∃C n,T (ae T p).1=some (.dir C)∧C.lookup (ae T p).2.1=some n)∧(ae T q).2.2=0∧isName (ae T q).2.1=true∧(∃C,T (ae T q).1=some (.dir C)∧C.lookup (ae T q).2.1=none)∧(p ++ [47]).isPrefixOf q=false:=by
 unfold eZ at h
 by_cases hz:(ae T p).2.2=0
 ·rw [if_neg (fun e=>e hz)] at h
  obtain ⟨⟨C,hd⟩,hnm⟩:=fu hT hz
  by_cases hh:og T (ae T p).1 (ae T p).2.1=none
  ·rw [if_pos hh] at h;omega
  ·rw [if_neg hh] at h
   rw [fe hd] at hh
   obtain ⟨n,hl⟩:∃n,C.lookup (ae T p).2.1=some n:=by
    cases e:C.lookup (ae T p).2.1 with
    |none=>exact absurd e hh
    |some n=>exact ⟨n,rfl⟩
   by_cases hz2:(ae T q).2.2=0
   ·rw [if_neg (fun e=>e hz2)] at h
    obtain ⟨⟨C2,hd2⟩,FC⟩:=fu hT hz2
    rw [fe hd2] at h
    cases hl2:C2.lookup (ae T q).2.1 with
    |some n2=>rw [hl2] at h;simp at h
    |none=>
     rw [hl2] at h
     simp only [Option.isSome_none,Bool.false_eq_true,if_false] at h
     refine ⟨hz,hnm,⟨C,n,hd,hl⟩,hz2,FC,⟨C2,hd2,hl2⟩,?_⟩
     cases e:(p ++ [47]).isPrefixOf q with
     |false=>rfl
     |true=>rw [e] at h;simp at h
   ·rw [if_pos hz2] at h;exact absurd h hz2
 ·rw [if_pos hz] at h;exact absurd h hz
section
variable {w w':World}{r gN s:Nat}{T:Wd}{Z:Int→Nat}{B G:Int→Nat}{V:Int→Value}{O:Nat→Prop}
theorem Di (p:List UInt8):((⟨p.toArray⟩:ByteArray) ++ ⟨#[47]⟩)=⟨(p ++ [47]).toArray⟩:=Nw p [47]
theorem PT.Oz (h:PT w r T O) (hT:bu T) (p q:List UInt8) (hp:p.length<100000) (hq:q.length<100000) (m:Int) (hm:w.cell? ⟨4,0,none⟩=some (.int .i64 m)) (hE:eZ T p q≠0) :
 Calls Tryz.prog 180 #[wp r,tx p,tx q] w fun e w'=>e=.returned (eQ (eZ T p q))∧Below w.heap.size w w':=by
 obtain ⟨gN,s,B,G,V,h⟩:=h
 have hs1:=h.num.pos hT.toTrOk
 unfold eZ at hE ⊢
 by_cases hz:(ae T p).2.2=0
 ·rw [if_neg (fun e=>e hz)] at hE ⊢
  cases hh:og T (ae T p).1 (ae T p).2.1 with
  |none=>
   rw [if_pos rfl]
   have Fu:=h.zV hT.toTrOk hs1 p hp m hm hz hh
   go_enter Tryz.func180,Tryz.ntmps180
   go_wp2_with (go_at_call 257;refine Fu.mono ?_;rintro e w1 ⟨rfl,b1⟩)
   go_ret
   refine ⟨rfl,?_⟩
   repeat first|exact b1|refine Below.alloc ?_ (by first|omega|(have:=b1.size;omega) | (simp<;>omega)) _
  |some n=>
   rw [hh] at hE
   rw [if_neg (by simp)] at hE ⊢
   have Fu:=h.pz hT.toTrOk hs1 p hp m hm hz hh
   have VC:∀w1,Below w.heap.size w w1→∀o,Below w.heap.size w (w1.alloc o):=fun w1 b1 o=>b1.alloc b1.size _
   by_cases hz2:(ae T q).2.2=0
   ·rw [if_neg (fun e=>e hz2)] at hE ⊢
    cases hh2:og T (ae T q).1 (ae T q).2.1 with
    |some n'=>
     rw [if_pos (show (some n').isSome=true from rfl)]
     have vQ:=fun w1 (b1:Below w.heap.size w w1)=>(h.below b1).tQ hT.toTrOk hs1 q hq m (aU hm b1) hz2 hh2
     generalize (ae T p).1=d at *
     generalize (ae T p).2.1=nm at *
     go_enter Tryz.func180,Tryz.ntmps180
     go_wp2_with (first
      |(go_at_call 257;refine Fu.mono ?_;rintro e w1 ⟨rfl,b1⟩;have vR:=vQ _ (VC w1 b1 (.cells #[.map (some (G d)),tx nm] 283)))
      |(go_at_call 235;refine vR.mono ?_;rintro e w2 ⟨rfl,b2⟩))
     go_ret
     have b8:=VC w1 b1 (.cells #[.map (some (G d)),tx nm] 283)
     have b9:Below w.heap.size w w2:=b8.trans (b2.mono b8.size)
     refine ⟨rfl,?_⟩
     repeat first|exact b9|refine Below.alloc ?_ (by first|omega|(have:=b9.size;omega) | (simp<;>omega)) _
    |none=>
     rw [hh2] at hE
     simp only [Option.isSome_none,Bool.false_eq_true,if_false] at hE ⊢
     cases hpx:(p ++ [47]).isPrefixOf q with
     |false=>rw [hpx] at hE;exact absurd (by simp) hE
     |true=>
      rw [if_pos rfl]
      have vQ:=fun w1 (b1:Below w.heap.size w w1)=>(h.below b1).nC hT.toTrOk hs1 q hq m (aU hm b1) hz2 hh2
      have hPx:=Ag q (p ++ [47])
      rw [hpx] at hPx
      have QZ:=Di p
      have hbig:¬9223372036854775807<p.length+1:=by omega
      generalize (ae T p).1=d at *
      generalize (ae T p).2.1=nm at *
      generalize (ae T q).1=d2 at *
      generalize (ae T q).2.1=Dn at *
      generalize p ++ [47]=p2 at *
      go_enter Tryz.func180,Tryz.ntmps180
      go_wp2_with (first
       |(go_at_call 257;refine Fu.mono ?_;rintro e w1 ⟨rfl,b1⟩;have vR:=vQ _ (VC w1 b1 (.cells #[.map (some (G d)),tx nm] 283)))
       |(go_at_call 235;refine vR.mono ?_;rintro e w2 ⟨rfl,b2⟩)
       |(go_at_call 258;refine (hPx _).mono ?_;rintro e w' ⟨rfl,hw'⟩;subst w'))
      go_ret
      have b8:=VC w1 b1 (.cells #[.map (some (G d)),tx nm] 283)
      have b9:Below w.heap.size w w2:=b8.trans (b2.mono b8.size)
      refine ⟨rfl,?_⟩
      repeat first|exact b9|refine Below.alloc ?_ (by first|omega|(have:=b9.size;omega) | (simp<;>omega)) _
   ·rw [if_pos hz2] at hE ⊢
    have vQ:=fun w1 (b1:Below w.heap.size w w1)=>(h.below b1).zK hT.toTrOk hs1 q hq m (aU hm b1) hz2
    generalize (ae T p).1=d at *
    generalize (ae T p).2.1=nm at *
    generalize (ae T q).2.2=z at *
    go_enter Tryz.func180,Tryz.ntmps180
    go_wp2_with (first
     |(go_at_call 257;refine Fu.mono ?_;rintro e w1 ⟨rfl,b1⟩;have vR:=vQ _ (VC w1 b1 (.cells #[.map (some (G d)),tx nm] 283)))
     |(go_at_call 235;refine vR.mono ?_;rintro e w2 ⟨rfl,b2⟩))
    go_ret
    have b8:=VC w1 b1 (.cells #[.map (some (G d)),tx nm] 283)
    have b9:Below w.heap.size w w2:=b8.trans (b2.mono b8.size)
    refine ⟨rfl,?_⟩
    repeat first|exact b9|refine Below.alloc ?_ (by first|omega|(have:=b9.size;omega) | (simp<;>omega)) _
 ·rw [if_pos hz] at hE ⊢
  have Fu:=h.Cf hT.toTrOk hs1 p hp m hm hz
  generalize (ae T p).2.2=z at *
  go_enter Tryz.func180,Tryz.ntmps180
  go_wp2_with (go_at_call 257;refine Fu.mono ?_;rintro e w1 ⟨rfl,b1⟩)
  go_ret
  refine ⟨rfl,?_⟩
  repeat first|exact b1|refine Below.alloc ?_ (by first|omega|(have:=b1.size;omega) | (simp<;>omega)) _
theorem xC (hT:bu T) {d n d2:Int}{nm Dn:Nm}{C C2:List (Nm×Int)}(hd:T d=some (.dir C)) (hl:C.lookup nm=some n) (hd2:T d2=some (.dir C2)) (hl2:C2.lookup Dn=none) (FC:isName Dn=true) :
 ∃C3,aZ T d nm d2=some (.dir C3)∧C3.lookup Dn=none∧C3.length≤C2.length∧(∀k,aM (gz (aZ T d nm) d2 Dn n) k=aM T k)∧bu (gz (aZ T d nm) d2 Dn n):=by
 obtain ⟨C3,hd3,hl3,hlen⟩:=Ye (d:=d) (nm:=nm) hd2 hl2
 have hok:TrOk (aZ T d nm):=hT.toTrOk.del d nm
 have hc:∀k,aM (gz (aZ T d nm) d2 Dn n) k=aM T k:=fun k=>by
  rw [qM hok hd3];exact EF hT.toTrOk hd hl k
 have hsome:=hT.child d C nm n hd hl
 have hsd:∀k nd,aZ T d nm k=some nd→∃mP,T k=some mP∧dZ mP=dZ nd:=fun k nd e=>by
  by_cases e1:k=d
  ·subst e1;rw [jD hd,aj] at e;cases e;exact ⟨_,hd,rfl⟩
  ·rw [jD hd,ag _ e1] at e;exact ⟨nd,e,rfl⟩
 refine ⟨C3,hd3,hl3,hlen,hc,?_⟩
 refine { toTrOk:=hok.add hd3 hl3 FC (by rw [Qe];exact hsome),nr:=by rw [hc];exact hT.nr,lv:=fun k nd e=>?_ }
 rw [hc]
 have:∃mP,T k=some mP∧dZ mP=dZ nd:=by
  by_cases e1:k=d2
  ·subst e1;rw [j5 hd3,aj] at e;cases e
   obtain ⟨mP,h1,h2⟩:=hsd k _ hd3
   exact ⟨mP,h1,h2⟩
  ·rw [j5 hd3,ag _ e1] at e;exact hsd k nd e
 obtain ⟨mP,h1,h2⟩:=this
 rw [←h2]
 exact hT.lv k mP h1
theorem bu.rename (hT:bu T) (p q:List UInt8):bu (fG T p q):=by
 unfold fG
 by_cases hE:eZ T p q=0
 ·rw [if_neg (fun e=>e hE)]
  obtain ⟨_,_,⟨C,n,hd,hl⟩,_,FC,⟨C2,hd2,hl2⟩,_⟩:=vB hT.toTrOk hE
  rw [fe hd,hl]
  obtain ⟨_,_,_,_,_,h⟩:=xC hT hd hl hd2 hl2 FC
  exact h
 ·rw [if_pos hE];exact hT
theorem PT.sZ (h:PT w r T O) (hT:bu T) (p q:List UInt8) (hp:p.length<100000) (hq:q.length<100000) (m:Int) (hm:w.cell? ⟨4,0,none⟩=some (.int .i64 m)) (hC:∀k C,T k=some (.dir C)→C.length≤1000) (hE:eZ T p q=0) :
 Calls Tryz.prog 180 #[wp r,tx p,tx q] w fun e w'=>e=.returned .nilIface∧PT w' r (fG T p q) O∧Stp w w' O O:=by
 obtain ⟨gN,s,B,G,V,h⟩:=h
 have hs1:=h.num.pos hT.toTrOk
 have j6:=hT.toTrOk
 obtain ⟨hz,hnm,⟨C,n,hd,hl⟩,hz2,FC,⟨C2,hd2,hl2⟩,hpx⟩:=vB j6 hE
 have hU:fG T p q=gz (aZ T (ae T p).1 (ae T p).2.1) (ae T q).1 (ae T q).2.1 n:=by unfold fG;rw [if_neg (fun e=>e hE),fe hd,hl];rfl
 have Fu:=h.pz j6 hs1 p hp m hm hz (n:=n) (by rw [fe hd];exact hl)
 have vQ:=fun w1 (b1:Below w.heap.size w w1)=>(h.below b1).nC j6 hs1 q hq m (aU hm b1) hz2 (by rw [fe hd2];exact hl2)
 obtain ⟨C3,hd3,hl3,hlen3,hcc,_⟩:=xC hT hd hl hd2 hl2 FC
 have hPx:=Ag q (p ++ [47])
 rw [hpx] at hPx
 have QZ:=Di p
 have hbig:¬9223372036854775807<p.length+1:=by omega
 have hnl:=dU hnm
 have ajG:=dU FC
 have hCl:=hC _ C2 hd2
 rw [hU]
 have VC:∀w1,Below w.heap.size w w1→∀o,Below w.heap.size w (w1.alloc o):=fun w1 b1 o=>b1.alloc b1.size _
 generalize (ae T p).1=d at *
 generalize (ae T p).2.1=nm at *
 generalize (ae T q).1=d2 at *
 generalize (ae T q).2.1=Dn at *
 generalize p ++ [47]=p2 at *
 have hstep:∀w1,Below w.heap.size w w1→Calls Tryz.prog 259 #[uj (some (G d)) nm] w1 fun e w'=>(∃v,e=.returned v)∧dL w' r gN s (aZ T d nm) (aM T) B G V O∧Stp w w' O O∧Stp w1 w' O O:=fun w1 b1=>by
  have h1:=h.below b1
  refine (F6 (h1.ll d C hd) nm (by omega) (by simp only [hl,Option.map_some,Option.isSome_some])).mono ?_
  rintro e w2 ⟨hv,sm,g2⟩
  exact ⟨hv,h1.del j6 hd (by rw [hl];rfl) g2 sm,(Stp.below b1).trans (.grown g2 (h1.nT d C hd)),.grown g2 (h1.nT d C hd)⟩
 have hstep2:∀w1,dL w1 r gN s (aZ T d nm) (aM T) B G V O→Calls Tryz.prog 236 #[uj (some (G d2)) Dn,.int .i64 n] w1 fun e w'=>(∃v,e=.returned v)∧PT w' r (gz (aZ T d nm) d2 Dn n) O∧Stp w1 w' O O:=fun w1 h1=>by
  refine (Jl (h1.ll d2 C3 hd3) (by unfold maxLen;omega) Dn (by omega) (by simp only [hl3,Option.map_none]) n).mono ?_
  rintro e w2 ⟨hv,sm,g2⟩
  exact ⟨hv,⟨gN,s,B,G,V,(h1.add hd3 g2 sm).as rfl (fun k _=>hcc k)⟩,.grown g2 (h1.nT d2 C3 hd3)⟩
 have hkp:∀ {w1 w2:World}{i:Nat}{c:Array Value},Stp w1 w2 O O→w.heap.size≤i→w1.heap[i]? = some (.cells c 283)→w2.heap[i]? = some (.cells c 283):=fun {w1 w2 i c} st hi hc=>
  (st.wt.block i (Array.getElem?_eq_some_iff.1 hc).1 (fun ho=>by have:=h.lt i ho;omega)).trans hc
 generalize gz (aZ T d nm) d2 Dn n=TT at *
 generalize aZ T d nm=TD at *
 go_enter Tryz.func180,Tryz.ntmps180
 go_wp2_with (first
  |(go_at_call 257;refine Fu.mono ?_;rintro e w1 ⟨rfl,b1⟩;have b8:=VC w1 b1 (.cells #[.map (some (G d)),tx nm] 283);have vR:=vQ _ b8)
  |(go_at_call 235;refine vR.mono ?_;rintro e w2 ⟨rfl,b2⟩
    have b9:Below w.heap.size w w2:=b8.trans (b2.mono b8.size)
    have b10:=VC w2 b9 (.cells #[.map (some (G d2)),tx Dn] 283)
    have q1:(w2.alloc (.cells #[.map (some (G d2)),tx Dn] 283)).heap[w1.heap.size]? = some (.cells #[.map (some (G d)),tx nm] 283):=lZ ((b2.block _ (by simp)).trans (World.alloc_heap_new _ _)) _
    have q2:(w2.alloc (.cells #[.map (some (G d2)),tx Dn] 283)).heap[w2.heap.size]? = some (.cells #[.map (some (G d2)),tx Dn] 283):=World.alloc_heap_new _ _
    obtain ⟨x0,x1,_,_⟩:=aN q1
    have hS:=hstep _ b10)
  |(go_at_call 258;refine (hPx _).mono ?_;rintro e w' ⟨rfl,hw'⟩;subst w')
  |(go_at_call 259;refine hS.mono ?_;rintro e w3 ⟨⟨v,rfl⟩,h3,wW,afj⟩;obtain ⟨y0,y1,_,_⟩:=aN (hkp afj b9.size q2);have hS2:=hstep2 w3 h3)
  |(go_at_call 236;refine hS2.mono ?_;rintro e w4 ⟨⟨v,rfl⟩,h4,st4⟩))
 go_ret
 exact ⟨rfl,h4,wW.trans st4⟩
theorem PT.Oy (h:PT w r T O) (hT:bu T) (p q:List UInt8) (hp:p.length<100000) (hq:q.length<100000) (m:Int) (hm:w.cell? ⟨4,0,none⟩=some (.int .i64 m)) (hC:∀k C,T k=some (.dir C)→C.length≤1000) :
 Calls Tryz.prog 180 #[wp r,tx p,tx q] w fun e w'=>e=.returned (aI (eZ T p q))∧PT w' r (fG T p q) O∧Stp w w' O O:=by
 by_cases hE:eZ T p q=0
 ·rw [hE,aB]
  exact h.sZ hT p q hp hq m hm hC hE
 ·rw [ax hE,show fG T p q=T by unfold fG;rw [if_pos hE]]
  refine (h.Oz hT p q hp hq m hm hE).mono ?_
  rintro e w' ⟨rfl,b⟩
  exact ⟨rfl,h.below b,.below b⟩
end
section
variable {w w':World}{r gN s:Nat}{T:Wd}{Z:Int→Nat}{B G:Int→Nat}{V:Int→Value}{O:Nat→Prop}
theorem PT.TZ (h:PT w r T O) (hT:bu T) (hs:dF T s) (p:List UInt8) (hp:p.length<100000) (m:Int) (hm:w.cell? ⟨4,0,none⟩=some (.int .i64 m)) (hC:∀k C,T k=some (.dir C)→C.length≤1000) :
 Calls Tryz.prog 173 #[wp r,tx p] w (MkR w r T O s p true):=by
 obtain ⟨gN,s',B,G,V,h⟩:=h
 obtain rfl:=hs.one h.num
 have hsz1:(w.alloc (.map #[] 0)).heap.size=w.heap.size+1:=by simp
 have bA:Below w.heap.size w ((w.alloc (.map #[] 0)).alloc (.cells #[.map (some w.heap.size),.slice none 0 0,.int .i64 0,.int .i64 0] 162)):=((Below.refl _ _).alloc (Nat.le_refl _) _).alloc (by rw [hsz1];omega) _
 have hA:=h.below bA
 have hmA:=aU hm bA
 have hND:=CB w
 have hb:=Cc w (.map #[] 0) (.cells #[.map (some w.heap.size),.slice none 0 0,.int .i64 0,.int .i64 0] 162)
 have hsm:SMap ((w.alloc (.map #[] 0)).alloc (.cells #[.map (some w.heap.size),.slice none 0 0,.int .i64 0,.int .i64 0] 162)) w.heap.size 0 (fun _=>none):=(SMap.made w).keep (Below.heap_alloc _ _ _ (by rw [hsz1];omega))
 generalize (w.alloc (.map #[] 0)).alloc (.cells #[.map (some w.heap.size),.slice none 0 0,.int .i64 0,.int .i64 0] 162)=wA at *
 by_cases hE:aY T s p=0
 ·have hAdd:=hA.Nb hT p (w.heap.size+1) w.heap.size true hp m hmA hC hb (fun ho=>by have:=h.lt _ ho;omega) (fun _=>⟨hsm,fun ho=>by have:=h.lt _ ho;omega⟩) hE
  go_enter Tryz.func173,Tryz.ntmps173
  go_wp2_with (first
   |(go_at_call 37;refine hND.mono ?_;rintro e w' ⟨rfl,hw'⟩;subst w')
   |(go_at_call 246;refine hAdd.mono ?_;rintro e w1 ⟨k,hk,ZU,rfl,h1,Fs⟩))
  go_ret2
  refine .inr ⟨hE,k,_,hk,ZU,rfl,h1,⟨⟨Fs.os.trans bA.os,Fs.tape.trans bA.tape,Fs.output.trans bA.output,Nat.le_trans bA.size Fs.size,fun i hi hn=>?_⟩,fun i hi=>?_⟩⟩
  ·refine (Fs.block i (Nat.lt_of_lt_of_le hi bA.size) (fun ho=>?_)).trans (bA.block i hi)
   rcases ho with ho|rfl|⟨rfl,e⟩
   ·exact hn ho
   ·omega
   ·omega
  ·rcases hi with ho|rfl|⟨rfl,e⟩
   ·exact .inl ho
   ·exact .inr (by omega)
   ·exact .inr (Nat.le_refl _)
 ·have hAdd:=hA.zi hT.toTrOk p (w.heap.size+1) hp m hmA hE
  have hfin:∀e w',e=.returned (.tuple #[.int .i64 0,eQ (aY T s p)])→Below w.heap.size w w'→MkR w r T O s p true e w':=fun e w' he b=>.inl ⟨hE,he,⟨gN,s,B,G,V,h.below b⟩,.below b⟩
  generalize aY T s p=z at *
  go_enter Tryz.func173,Tryz.ntmps173
  go_wp2_with (first
   |(go_at_call 37;refine hND.mono ?_;rintro e w' ⟨rfl,hw'⟩;subst w')
   |(go_at_call 246;refine hAdd.mono ?_;rintro e w1 ⟨rfl,b1⟩))
  go_ret2
  exact hfin _ _ rfl (bA.trans (b1.mono bA.size))
end
end Go.Proofs.YtippochapiolpaaGreatDoor

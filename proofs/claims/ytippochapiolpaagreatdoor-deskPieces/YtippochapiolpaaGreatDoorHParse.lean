/- The desk's words: a line's words, a word's number. -/
import Derived.Test.YtippochapiolpaaGreatDoorHRefuse
import Derived.Test.YtippochapiolpaaGreatDoorWood
import Derived.Test.YtippochapiolpaaGreatDoorShelfH
import Derived.Lib.AtoiAll
import Derived.Test.YtippochapiolpaaGreatDoorTell
import Derived.Deep.LoopGhost
import Derived.Deep.Light
import Derived.Deep.DeepCutAuto
set_option maxHeartbeats 8000000
set_option maxRecDepth 100000
namespace Go.Proofs.YtippochapiolpaaGreatDoor
open Go.RowKit Go.Shelf
def Vm (w:World) (ad:Option Addr) (L:List (List UInt8)):Prop:=
 L=[]∨∃blk off,ad=some ⟨blk,off,none⟩∧blk<w.heap.size∧∀i (hi:i<L.length),w.cell? ⟨blk,off+i,none⟩=some (tx L[i])
theorem Vm.below {w w':World}{ad:Option Addr}{L:List (List UInt8)}(h:Vm w ad L) (hb:Below w.heap.size w w'):Vm w' ad L:=by
 rcases h with h|⟨blk,off,e,hl,hc⟩
 ·exact .inl h
 ·exact .inr ⟨blk,off,e,Nat.lt_of_lt_of_le hl hb.size,fun i hi=>by rw [hb.cell (p:=⟨blk,off+i,none⟩) hl];exact hc i hi⟩
theorem V8 (s:ByteArray):tx s.data.toList=.string s:=by
 show Value.string ⟨s.data.toList.toArray⟩=_
 rw [Array.toArray_toList]
theorem Vm.row {w:World}{n0 A n c:Nat}{t:TypeId}{L:List ByteArray}(h:w.ownsRow n0 t 1 (.slice (some ⟨A,0,none⟩) n c) n (L.map Value.string)):Vm w (some ⟨A,0,none⟩) (L.map (·.data.toList)):=by
 refine .inr ⟨A,0,rfl,(h.lt A rfl).2,fun i hi=>?_⟩
 have hi2:i<L.length:=by simpa using hi
 have:=h.cells (g:=A) rfl i (.string L[i]) (by simp [hi2])
 rw [Nat.zero_add,List.getElem_map,V8,←this]
 simp [Addr.add_lit]
theorem II (w:World):PredAt Tryz.prog 28 #[] encR nX w:=fun W r _=>by
 have e:nX r=((r:Int) == 32):=by
  unfold nX
  by_cases h:r=32
  ·subst h;rfl
  ·have h2:¬(r:Int)=32:=by omega
   rw [beq_eq_false_iff_ne.2 h,beq_eq_false_iff_ne.2 h2]
 unfold FnGives
 rw [e]
 go_enter Tryz.func28,Tryz.ntmps28
 go_wp2
 go_ret
 exact ⟨rfl,0,rfl⟩
theorem Su (ln:List UInt8) (hl:ln.length≤100000) (w:World) :
 Calls Tryz.prog 27 #[tx ln,.func (.func 28) #[] #[]] w fun e w'=>∃A,e=.returned (.slice (some ⟨A,0,none⟩) (bJ ln).length (bJ ln).length)∧Vm w' (some ⟨A,0,none⟩) (bJ ln)∧w.heap.size≤A∧Below w.heap.size w w':=by
 have hs:(⟨ln.toArray⟩:ByteArray).size=ln.length:=by simp [ByteArray.size]
 refine (Any.strings_FieldsFunc Tryz.fieldsL 28 #[] (enters_of Tryz.func28 (by kernel_rfl) rfl) nX ⟨ln.toArray⟩ w (by rw [hs];omega) (II w) (by kernel_rfl) (by kernel_rfl)).mono ?_
 rintro e w' ⟨A,rfl,hA,hown,hb⟩
 have hlen:(bJ ln).length=(Lib.goFieldsP nX ⟨ln.toArray⟩).length:=by unfold bJ;rw [List.length_map]
 rw [hlen]
 exact ⟨A,rfl,Vm.row hown,hA,hb⟩
def gQ (x:List UInt8):Option Int:=match Lib.atoiAll x with
 |.ok v=>if Lib.itoa v=x then some v else none
 |_=>none
structure GL (w:World):Prop where
 pow:Pow w
 er:w.cell? ⟨0,0,none⟩=some iB
 syn:∃te pe,w.cell? ⟨5,0,none⟩=some (.iface te pe)
 rng:∃te pe,w.cell? ⟨6,0,none⟩=some (.iface te pe)
theorem GL.below {w w':World}(h:GL w) (hb:Below w.heap.size w w'):GL w':=by
 have k:∀ {a:Addr}{v:Value},w.cell? a=some v→w'.cell? a=some v:=fun {a v} e=>(hb.cell (p:=a) (World.block_lt_of_cell? w _ e)).trans e
 obtain ⟨p,e,⟨te,pe,hs⟩,⟨te2,pe2,hr⟩⟩:=h
 exact ⟨p.below hb,k e,⟨te,pe,k hs⟩,⟨te2,pe2,k hr⟩⟩
theorem IC (w:World) (t:TypeId) (s:ByteArray):Below w.heap.size w (Lib.bytesWorld w t s):=
 ⟨rfl,rfl,rfl,by rw [Lib.bytesWorld_size];omega,fun k hk=>Lib.bytesWorld_at_old w _ _ k hk⟩
theorem Yw (x:List UInt8) (hx:x.length≤100000) (w:World) {v:Int}(h:Lib.atoiAll x=.ok v):Calls Tryz.prog 75 #[tx x] w fun e w'=>e=.returned (.tuple #[.int .i64 v,.nilIface])∧Below w.heap.size w w':=by
 have hs:(⟨x.toArray⟩:ByteArray).size=x.length:=by simp [ByteArray.size]
 refine (Any.strconv_Atoi_ok Tryz.atoiCL ⟨x.toArray⟩ (by rw [hs];omega) v h w).mono ?_
 rintro e w' ⟨rfl,hw⟩
 refine ⟨rfl,?_⟩
 rcases hw with rfl|⟨t,rfl⟩
 ·exact Below.refl _ _
 ·exact IC _ _ _
theorem Vd (x:List UInt8) (hx:x.length≤100000) (w:World) (g:GL w) (hn:∀v,Lib.atoiAll x≠.ok v):Calls Tryz.prog 75 #[tx x] w fun e w'=>∃z te pe,e=.returned (.tuple #[.int .i64 z,.iface te pe])∧Below w.heap.size w w':=by
 have hs:(⟨x.toArray⟩:ByteArray).size=x.length:=by simp [ByteArray.size]
 cases h:Lib.atoiAll x with
 |ok v=>exact absurd h (hn v)
 | «syntax» =>
  obtain ⟨te,pe,hc⟩:=g.syn
  refine (Any.strconv_Atoi_syntax Tryz.atoiCL ⟨x.toArray⟩ (by rw [hs];omega) h _ w hc (.inr ⟨_,_,rfl⟩)).mono ?_
  rintro e w' ⟨N,rfl,_,_,hb⟩
  exact ⟨_,_,_,rfl,hb⟩
 |range=>
  obtain ⟨te,pe,hc⟩:=g.rng
  refine (Any.strconv_Atoi_range Tryz.atoiCL ⟨x.toArray⟩ (by rw [hs];omega) h _ w hc (.inr ⟨_,_,rfl⟩)).mono ?_
  rintro e w' ⟨N,rfl,_,_,hb⟩
  exact ⟨_,_,_,rfl,hb⟩
theorem Gx {x:List UInt8}{n:Int}(h:gQ x=some n):dH n:=by
 unfold gQ at h
 cases e:Lib.atoiAll x with
 |ok v=>
  rw [e] at h
  simp only at h
  split at h
  ·cases h;exact Lib.atoiAll_bounds e
  ·cases h
 | «syntax» => rw [e] at h;cases h
 |range=>rw [e] at h;cases h
def Z0 (x:List UInt8) (w:World) (e:Ending) (w':World):Prop:=∃z,e=.returned (.tuple #[.int .i64 z,.bool (gQ x).isSome])∧(∀n,gQ x=some n→z=n)∧Below w.heap.size w w'
theorem wJ (x:List UInt8) (hx:x.length≤100000) (w:World) (g:GL w):Calls Tryz.prog 29 #[tx x] w (Z0 x w):=by
 by_cases hn:∀v,Lib.atoiAll x≠.ok v
 ·have hA:=Vd x hx w g hn
  have h0:gQ x=none:=by
   unfold gQ
   cases e:Lib.atoiAll x with
   |ok v=>exact absurd e (hn v)
   | «syntax» => rfl
   |range=>rfl
  unfold Z0
  rw [h0]
  clear hn g h0
  go_enter Tryz.func29,Tryz.ntmps29
  go_wp2_with (go_at_call 75;refine hA.mono ?_;rintro e w1 ⟨z,te,pe,rfl,b1⟩)
  go_ret2
  exact ⟨_,rfl,(fun n h=>by cases h),b1⟩
 ·obtain ⟨v,hv⟩:∃v,Lib.atoiAll x=.ok v:=Classical.not_forall_not.1 hn
  have hi:dH v:=Lib.atoiAll_bounds hv
  have hA:=Yw x hx w hv
  have hI:∀V,Below w.heap.size w V→Calls Tryz.prog 13 #[.int .i64 v] V fun e w'=>e=.returned (tx (Lib.itoa v))∧Below V.heap.size V w':=fun V b=>uZ v hi.1 hi.2 V (g.pow.below b)
  have h0:gQ x=if Lib.itoa v=x then some v else none:=by unfold gQ;rw [hv]
  have hbe:(Lib.itoa v == x)=(gQ x).isSome:=by
   rw [h0]
   by_cases e:Lib.itoa v=x
   ·rw [if_pos e,e];simp
   ·rw [if_neg e];simpa using e
  have hz:∀n,gQ x=some n→v=n:=fun n h=>by
   rw [h0] at h
   split at h
   ·exact Option.some.inj h
   ·cases h
  unfold Z0
  clear hn g h0 hv hi
  generalize gQ x=o at *
  go_enter Tryz.func29,Tryz.ntmps29
  go_wp2_with (first
   |(go_at_call 75;refine hA.mono ?_;rintro e w1 ⟨rfl,b1⟩;have hI1:=hI w1 b1)
   |(go_at_call 13;refine hI1.mono ?_;rintro e w2 ⟨rfl,b2⟩))
  go_ret2
  exact ⟨_,rfl,hz,b1.trans (b2.mono b1.size)⟩
end Go.Proofs.YtippochapiolpaaGreatDoor
namespace Go.Proofs.YtippochapiolpaaGreatDoor
open Go.RowKit
abbrev az:=List UInt8
def fK:az→List az→List Int→List az→Bool→Option (List Int×List az×Bool)
 | [],[],ns,ts,on=>some (ns,ts,on)
 |f :: fs,x :: xs,ns,ts,on=>
  if f=78 then match gQ x with
   |some n=>fK fs xs (ns ++ [n]) ts on
   |none=>none
  else if f=89 then if x=[121] then fK fs xs ns ts true else if x=[110] then fK fs xs ns ts false else none
  else fK fs xs ns (ts ++ [x]) on
 |_,_,_,_,_=>none
theorem Ao:∀(fs:az) (xs:List az) (ns:List Int) (ts:List az) (on:Bool),fs.length≠xs.length→fK fs xs ns ts on=none
 | [],[],_,_,_,h=>absurd rfl h
 | [],_ :: _,_,_,_,_=>by simp [fK]
 |_ :: _,[],_,_,_,_=>by simp [fK]
 |f :: fs,x :: xs,ns,ts,on,h=>by
  have ih:=fun ns ts on=>Ao fs xs ns ts on (by simpa using h)
  simp only [fK]
  split
  ·split
   ·exact ih _ _ _
   ·rfl
  ·split
   ·split
    ·exact ih _ _ _
    ·split
     ·exact ih _ _ _
     ·rfl
   ·exact ih _ _ _
def gK (fs:az) (xs:List az):Option (List Int×List az×Bool):=fK fs xs [] [] false
def BO (w:World) (v:Value) (L:List Int):Prop:=∃ad cap,v=.slice ad L.length cap∧pV w ad L
def TxV (w:World) (v:Value) (L:List az):Prop:=∃ad cap,v=.slice ad L.length cap∧Vm w ad L
theorem BO.row {w:World}{n0:Nat}{t:TypeId}{v:Value}{L:List Int}(h:w.ownsRow n0 t 1 v L.length (L.map (Value.int .i64))):BO w v L:=by
 rcases h.2 with ⟨rfl,h0⟩|⟨g,cap,cur,rfl,_,hg,_⟩
 ·exact ⟨none,0,by rw [h0],.inl (List.eq_nil_of_length_eq_zero h0)⟩
 ·refine ⟨_,cap,rfl,.inr ⟨g,0,rfl,(Array.getElem?_eq_some_iff.1 hg).1,fun i hi=>?_⟩⟩
  have:=h.cells (g:=g) rfl i (.int .i64 L[i]) (by simp [hi])
  rw [Nat.zero_add,←this]
  simp [Addr.add_lit]
theorem TxV.row {w:World}{n0:Nat}{t:TypeId}{v:Value}{L:List az}(h:w.ownsRow n0 t 1 v L.length (L.map fun x=>tx x)):TxV w v L:=by
 rcases h.2 with ⟨rfl,h0⟩|⟨g,cap,cur,rfl,_,hg,_⟩
 ·exact ⟨none,0,by rw [h0],.inl (List.eq_nil_of_length_eq_zero h0)⟩
 ·refine ⟨_,cap,rfl,.inr ⟨g,0,rfl,(Array.getElem?_eq_some_iff.1 hg).1,fun i hi=>?_⟩⟩
  have:=h.cells (g:=g) rfl i (tx L[i]) (by simp [hi])
  rw [Nat.zero_add,←this]
  simp [Addr.add_lit]
theorem M9 {w:World}{n0 n:Nat}{v u z:Value}{xs:List Value}{t e:TypeId}{i:TypeInfo}{bytes:Nat}(ht:Tryz.prog.underlying t=some (.slice e)) (hi:Tryz.prog.info? e=some i) (hz0:i.zero=some z) (hz1:i.size=1) (hz2:i.bytes=bytes) (hz3:z.cells.size=1) (hb:bytes≤16)
 (hown:w.ownsRow n0 e 1 v n xs) (hu:u.oneCell'=true) (hn:n0≤w.heap.size) (hl:n≤10000) :
 ∃ao cap w',(∀ty,(Builtin.append_ #[t,t] ty #[v,.slice (some ⟨w.heap.size,0,none⟩) 1 1]).run Tryz.prog (w.alloc (.cells #[u] e))=.ok (.slice ao (n+1) cap) w')∧w'.ownsRow n0 e 1 (.slice ao (n+1) cap) (n+1) (xs ++ [u])∧(w.alloc (.cells #[u] e)).grownBy w' v.ownBlock:=by
 obtain ⟨v',w2,hrun,hown',hgrow,_⟩:=run_append_own_at (P:=Tryz.prog) (w.alloc (.cells #[u] e)) n0 t t e i z 1 bytes ht hi hz0 hz1 hz2 hz3 (by decide) v n xs (hown.alloc _) ⟨w.heap.size,0,none⟩ 1 1 [u] rfl (Dh _ _ _) (by intro x hx;rw [List.mem_singleton.1 hx];exact hu) (by unfold maxLen;omega) (by have:=Nat.mul_le_mul (show n+1≤10001 by omega) hb;omega) (by simp;omega)
 obtain ⟨ao,cap,rfl⟩:∃ao cap,v'=.slice ao (n+1) cap:=by
  rcases hown'.2 with ⟨hv,h0⟩|⟨x,cap,cur,hv,_⟩
  ·omega
  ·exact ⟨_,_,hv⟩
 exact ⟨ao,cap,w2,fun _=>hrun,hown',hgrow⟩
theorem Af {w:World}{n0 n m:Nat}{v u:Value}{xs ys:List Value}{e f:TypeId}(h:w.ownsRow n0 e 1 v n xs) (k:w.ownsRow n0 f 1 u m ys) (hef:e≠f):u.ownBlock=none∨v.ownBlock≠u.ownBlock:=by
 rcases h.2 with ⟨rfl,_⟩|⟨g,cap,cur,rfl,_,hg,_⟩
 ·rcases k.2 with ⟨rfl,_⟩|⟨g2,cap2,afW,rfl,_,hg2,_⟩
  ·exact .inl rfl
  ·exact .inr (by simp [Value.ownBlock])
 ·rcases k.2 with ⟨rfl,_⟩|⟨g2,cap2,afW,rfl,_,hg2,_⟩
  ·exact .inl rfl
  ·refine .inr fun e9=>?_
   simp only [Value.ownBlock,Option.some.injEq] at e9
   subst e9
   rw [hg] at hg2
   simp only [Option.some.injEq,Obj.cells.injEq] at hg2
   exact hef hg2.2.1
structure PB (w wr:World) (B:Nat) (word:az) (ns:List Int) (ts:List az) (nv tv:Value) (on:Bool):Prop where
 box:wr.heap[B+1]? = some (.cells #[.int .i64 0,tx word,nv,tv,.bool on] 86)
 out:∃a b c d e,wr.heap[B]? = some (.cells #[a,b,c,d,e] 86)
 ns:wr.ownsRow (B+2) 3 1 nv ns.length (ns.map (Value.int .i64))
 ts:wr.ownsRow (B+2) 9 1 tv ts.length (ts.map fun x=>tx x)
 vK:Below B w wr
section
variable {w wr w':World}{B:Nat}{word:az}{ns:List Int}{ts:List az}{nv tv:Value}{on:Bool}
theorem rC {w w':World}{n0 n:Nat}{v:Value}{xs:List Value}{e:TypeId}(h:w.ownsRow n0 e 1 v n xs) (b:Below w.heap.size w w'):w'.ownsRow n0 e 1 v n xs:=
 h.kept (row:=some w.heap.size) ⟨b.os,b.tape,b.output,b.size,fun i hi _=>b.block i hi⟩ (by
  rcases h9:v.ownBlock with _|x
  ·exact .inl rfl
  ·exact .inr fun e=>by have:=(h.lt _ h9).2;simp at e;omega)
theorem PB.below (h:PB w wr B word ns ts nv tv on) (b:Below wr.heap.size wr w'):PB w w' B word ns ts nv tv on:=by
 obtain ⟨h1,⟨a,b',c,d,e,h2⟩,h3,h4,h5⟩:=h
 have k:∀ {i:Nat}{o:Obj},wr.heap[i]? = some o→w'.heap[i]? = some o:=fun {i o} e=>(b.block i (Array.getElem?_eq_some_iff.1 e).1).trans e
 exact ⟨k h1,⟨a,b',c,d,e,k h2⟩,rC h3 b,rC h4 b,h5.trans (b.mono (by have:=(Array.getElem?_eq_some_iff.1 h1).1;omega))⟩
theorem Ed {V:World}{b i:Nat}{a:Array Value}{t:TypeId}{v:Value}(h:V.heap[b]? = some (.cells a t)):(V.setCell ⟨b,i,none⟩ v).heap[b]? = some (.cells (a.setIfInBounds i v) t):=by
 simp [World.setCell,Array.getElem?_modify,h]
theorem nu {V:World}{n0 n b i:Nat}{x v:Value}{xs:List Value}{e:TypeId}(h:V.ownsRow n0 e 1 v n xs) (hb:b<n0):(V.setCell ⟨b,i,none⟩ x).ownsRow n0 e 1 v n xs:=
 h.kept (row:=some b) ⟨rfl,rfl,rfl,by simp [World.setCell],fun k _ hk=>Below.heap_setCell _ _ _ _ (fun e=>hk (by simp [e]))⟩ (by
  rcases h9:v.ownBlock with _|y
  ·exact .inl rfl
  ·exact .inr fun e=>by have:=(h.lt _ h9).1;simp at e;omega)
theorem PB.addN (h:PB w wr B word ns ts nv tv on) (z:Int) (hl:ns.length≤1000) :
 ∃ao cap w2,(∀ty,(Builtin.append_ #[46,46] ty #[nv,.slice (some ⟨wr.heap.size,0,none⟩) 1 1]).run Tryz.prog (wr.alloc (.cells #[.int .i64 z] 3))=.ok (.slice ao (ns.length+1) cap) w2)∧w2.cell? ⟨B+1,2,none⟩=some nv∧w2.frozen? ⟨B+1,2,none⟩=false∧PB w (w2.setCell ⟨B+1,2,none⟩ (.slice ao (ns.length+1) cap)) B word (ns ++ [z]) ts (.slice ao (ns.length+1) cap) tv on:=by
 obtain ⟨i0,hi,hz0,hz1,hz2⟩:=info_parts (P:=Tryz.prog) (e:=3) (z:=.int .i64 0) (size:=1) (bytes:=8) (by kernel_rfl)
 have hap:=Af h.ns h.ts (by decide)
 obtain ⟨h1,⟨a,b',c,d,e,h2⟩,h3,h4,h5⟩:=h
 have hs1:B+1<wr.heap.size:=(Array.getElem?_eq_some_iff.1 h1).1
 obtain ⟨ao,cap,w2,hr,qa,hg⟩:=M9 (u:=.int .i64 z) Tryz.underlying46 hi hz0 hz1 hz2 rfl (by decide) h3 rfl (by omega) (by omega)
 have hA:∀ {i:Nat}{o:Obj},i<B+2→wr.heap[i]? = some o→w2.heap[i]? = some o:=fun {i o} hi9 e=>by
  rw [hg.block i (by simp;have:=(Array.getElem?_eq_some_iff.1 e).1;omega) (fun e9=>by have:=(h3.lt i e9.symm).1;omega)]
  exact (Below.heap_alloc _ _ _ (Array.getElem?_eq_some_iff.1 e).1).trans e
 have k1:=hA (by omega) h1
 refine ⟨ao,cap,w2,hr,by rw [Lib.cell_of_heap k1];rfl,Lib.frozen_of_heap k1 2,Ed k1,⟨a,b',c,d,e,(Below.heap_setCell _ _ _ _ (by show B≠B+1;omega)).trans (hA (by omega) h2)⟩,?_,nu ((h4.alloc _).kept hg (by rcases hap with h9|h9;exact .inl h9;exact .inr fun e=>h9 e.symm)) (by omega),?_⟩
 ·have:=nu (b:=B+1) (i:=2) (x:=.slice ao (ns.length+1) cap) qa (by omega)
  simpa using this
 ·have:=h5.alloc (by omega) (.cells #[.int .i64 z] 3)
  exact (this.grown hg (by simp;omega) (fun k hk=>by have:=(h3.lt k hk).1;omega)).setCell (by show B≤B+1;omega) _
theorem PB.gz (h:PB w wr B word ns ts nv tv on) (z:az) (hl:ts.length≤1000) :
 ∃ao cap w2,(∀ty,(Builtin.append_ #[75,75] ty #[tv,.slice (some ⟨wr.heap.size,0,none⟩) 1 1]).run Tryz.prog (wr.alloc (.cells #[tx z] 9))=.ok (.slice ao (ts.length+1) cap) w2)∧w2.cell? ⟨B+1,3,none⟩=some tv∧w2.frozen? ⟨B+1,3,none⟩=false∧PB w (w2.setCell ⟨B+1,3,none⟩ (.slice ao (ts.length+1) cap)) B word ns (ts ++ [z]) nv (.slice ao (ts.length+1) cap) on:=by
 obtain ⟨i0,hi,hz0,hz1,hz2⟩:=info_parts (P:=Tryz.prog) (e:=9) (z:=.string ⟨#[]⟩) (size:=1) (bytes:=16) (by kernel_rfl)
 have hap:=Af h.ts h.ns (by decide)
 obtain ⟨h1,⟨a,b',c,d,e,h2⟩,h3,h4,h5⟩:=h
 have hs1:B+1<wr.heap.size:=(Array.getElem?_eq_some_iff.1 h1).1
 obtain ⟨ao,cap,w2,hr,qa,hg⟩:=M9 (u:=tx z) Tryz.underlying75 hi hz0 hz1 hz2 rfl (by decide) h4 rfl (by omega) (by omega)
 have hA:∀ {i:Nat}{o:Obj},i<B+2→wr.heap[i]? = some o→w2.heap[i]? = some o:=fun {i o} hi9 e=>by
  rw [hg.block i (by simp;have:=(Array.getElem?_eq_some_iff.1 e).1;omega) (fun e9=>by have:=(h4.lt i e9.symm).1;omega)]
  exact (Below.heap_alloc _ _ _ (Array.getElem?_eq_some_iff.1 e).1).trans e
 have k1:=hA (by omega) h1
 refine ⟨ao,cap,w2,hr,by rw [Lib.cell_of_heap k1];rfl,Lib.frozen_of_heap k1 3,Ed k1,⟨a,b',c,d,e,(Below.heap_setCell _ _ _ _ (by show B≠B+1;omega)).trans (hA (by omega) h2)⟩,nu ((h3.alloc _).kept hg (by rcases hap with h9|h9;exact .inl h9;exact .inr fun e=>h9 e.symm)) (by omega),?_,?_⟩
 ·have:=nu (b:=B+1) (i:=3) (x:=.slice ao (ts.length+1) cap) qa (by omega)
  rw [List.length_append,List.map_append];exact this
 ·have:=h5.alloc (by omega) (.cells #[tx z] 9)
  exact (this.grown hg (by simp;omega) (fun k hk=>by have:=(h4.lt k hk).1;omega)).setCell (by show B≤B+1;omega) _
theorem PB.YU (h:PB w wr B word ns ts nv tv on) (c:Bool):PB w (wr.setCell ⟨B+1,4,none⟩ (.bool c)) B word ns ts nv tv c:=by
 obtain ⟨h1,⟨a,b',c',d,e,h2⟩,h3,h4,h5⟩:=h
 exact ⟨Ed h1,⟨a,b',c',d,e,(Below.heap_setCell _ _ _ _ (by show B≠B+1;omega)).trans h2⟩,nu h3 (by omega),nu h4 (by omega),h5.setCell (by show B≤B+1;omega) _⟩
theorem PB.cell (h:PB w wr B word ns ts nv tv on):wr.cell? ⟨B+1,2,none⟩=some nv∧wr.cell? ⟨B+1,3,none⟩=some tv∧wr.cell? ⟨B+1,4,none⟩=some (.bool on)∧wr.frozen? ⟨B+1,4,none⟩=false∧B+1<wr.heap.size:=
 ⟨by rw [Lib.cell_of_heap h.box];rfl,by rw [Lib.cell_of_heap h.box];rfl,by rw [Lib.cell_of_heap h.box];rfl,Lib.frozen_of_heap h.box 4,(Array.getElem?_eq_some_iff.1 h.box).1⟩
end
def sU (w:World) (B:Nat) (word form:az) (ws:List az) (e:Ending) (w':World):Prop:=
 Below B w w'∧match gK form ws with
  |some (ns,ts,on)=>∃nv tv,e=.returned (dR 0 word nv tv on)∧w'.ownsRow B 3 1 nv ns.length (ns.map (Value.int .i64))∧w'.ownsRow B 9 1 tv ts.length (ts.map fun x=>tx x)
  |none=>e=thrown (eQ 3)
theorem uU {w:World}{n0 n1 n:Nat}{v:Value}{xs:List Value}{e:TypeId}(h:w.ownsRow n0 e 1 v n xs) (hn:n1≤n0):w.ownsRow n1 e 1 v n xs:=by
 refine ⟨h.1,?_⟩
 rcases h.2 with h0|⟨g,cap,cur,e,hg,r⟩
 ·exact .inl h0
 ·exact .inr ⟨g,cap,cur,e,by omega,r⟩
theorem sU.no {w w':World}{B:Nat}{word form:az}{ws:List az}(b:Below B w w') (h:gK form ws=none):sU w B word form ws (thrown (eQ 3)) w':=⟨b,by rw [h]⟩
theorem sU.yes {w w':World}{B:Nat}{word form:az}{ws:List az}{ns:List Int}{ts:List az}{on:Bool}{nv tv:Value}(b:Below B w w') (h:gK form ws=some (ns,ts,on)) (hn:w'.ownsRow (B+2) 3 1 nv ns.length (ns.map (Value.int .i64))) (ht:w'.ownsRow (B+2) 9 1 tv ts.length (ts.map fun x=>tx x)):sU w B word form ws (.returned (dR 0 word nv tv on)) w':=⟨b,by rw [h];exact ⟨nv,tv,rfl,uU hn (by omega),uU ht (by omega)⟩⟩
theorem OQ {form:az}{ws:List az}{i:Nat}(h1:i<form.length) (h2:i<ws.length) (ns:List Int) (ts:List az) (on:Bool):fK (form.drop i) (ws.drop i) ns ts on=if form[i]=78 then (match gQ ws[i] with|some n=>fK (form.drop (i+1)) (ws.drop (i+1)) (ns ++ [n]) ts on|none=>none) else if form[i]=89 then (if ws[i]=[121] then fK (form.drop (i+1)) (ws.drop (i+1)) ns ts true else if ws[i]=[110] then fK (form.drop (i+1)) (ws.drop (i+1)) ns ts false else none) else fK (form.drop (i+1)) (ws.drop (i+1)) ns (ts ++ [ws[i]]) on:=by
 rw [List.drop_eq_getElem_cons h1,List.drop_eq_getElem_cons h2];rfl
theorem YR {c:UInt8}{n:Nat}(hn:n<256) (h:¬c.toNat=n):¬c=n.toUInt8:=fun e=>h (by rw [e];simp;omega)
theorem Gr (w:World) (g:GL w) (form word:az) (ws:List az) (ad:Option Addr) (cap:Nat) (hA:Vm w ad (word :: ws)) (hf:form.length≤100) (hc:ws.length<cap) (hl:∀x∈ws,x.length≤100000) :
 Calls Tryz.prog 32 #[tx form,.slice ad (word :: ws).length cap] w (sU w w.heap.size word form ws):=by
 rcases hA with h9|⟨blk,off,rfl,hbl,hcs⟩
 ·cases h9
 have c0:w.cell? ⟨blk,off,none⟩=some (tx word):=hcs 0 (by simp)
 obtain ⟨B,hB⟩:∃B,w.heap.size=B:=⟨_,rfl⟩
 rw [hB]
 have HG:Aside (∀V,Below B w V→GL V):=fun V b=>g.below (by rw [hB];exact b)
 have HC:Aside (∀V,Below B w V→∀i (hi:i<ws.length),V.cell? ⟨blk,off+1+i,none⟩=some (tx ws[i])):=fun V b i hi=>by
  rw [b.cell (p:=⟨blk,off+1+i,none⟩) (by show blk<B;omega)]
  have:=hcs (i+1) (by simp;omega)
  rw [show off+1+i=off+(i+1) by omega,this];rfl
 have HL:Aside (∀x∈ws,x.length≤100000):=hl
 clear hl g hcs
 go_enter Tryz.func32,Tryz.ntmps32
 have c1:∀o,(w.alloc o).cell? ⟨blk,off,none⟩=some (tx word):=fun o=>by rw [World.cell?_alloc_lt _ _ ⟨blk,off,none⟩ hbl];exact c0
 go_upto_region 3 with fail
 have P0:PB w ((w.alloc (.cells #[.int .i64 0,.string { data:=#[] },.slice none 0 0,.slice none 0 0,.bool false] 86)).alloc (.cells #[.int .i64 0,tx word,.slice none 0 0,.slice none 0 0,.bool false] 86)) B word [] [] (.slice none 0 0) (.slice none 0 0) false:=by
  rw [←hB]
  refine ⟨?_,⟨.int .i64 0,.string { data:=#[] },.slice none 0 0,.slice none 0 0,.bool false,?_⟩,World.ownsRow_nil _ _ _ _,World.ownsRow_nil _ _ _ _,((Below.refl _ _).alloc (Nat.le_refl _) _).alloc (by simp) _⟩
  ·show ((w.heap.push _).push _)[w.heap.size+1]? = _
   rw [Array.getElem?_push,if_pos (by simp)]
  ·show ((w.heap.push _).push _)[w.heap.size]? = _
   rw [Array.getElem?_push,if_neg (by simp),Array.getElem?_push,if_pos rfl]
 generalize (w.alloc (.cells #[.int .i64 0,.string { data:=#[] },.slice none 0 0,.slice none 0 0,.bool false] 86)).alloc (.cells #[.int .i64 0,tx word,.slice none 0 0,.slice none 0 0,.bool false] 86)=wA at *
 have HA:Aside (0<ws.length→(if cap=1 then (some ⟨blk,off,none⟩:Option Addr) else some ⟨blk,off+1,none⟩)=some ⟨blk,off+1,none⟩):=fun h=>if_neg (by omega)
 generalize (if cap=1 then (some ⟨blk,off,none⟩:Option Addr) else some ⟨blk,off+1,none⟩)=ad2 at *
 obtain ⟨cap2,hcap2⟩:∃c,cap-1=c:=⟨_,rfl⟩
 have hc2:ws.length≤cap2:=by omega
 rw [hcap2]
 clear hcap2 hc c0 c1
 by_cases hlen:form.length=ws.length
 ·have h5:((ws.length:Int) != (form.length:Int))=false:=by simp [hlen]
  go_wp2_with fail
  go_loopg [6,24] ws.length (fun mm s6 s24 wr=>∃(i:Nat) (ns:List Int) (ts:List az) (on:Bool) (nv tv:Value),i+mm=ws.length∧s24=.int .i64 (i:Int)∧s6=.bool true∧PB w wr B word ns ts nv tv on∧ns.length≤i∧ts.length≤i∧Aside (gK form ws=fK (form.drop i) (ws.drop i) ns ts on))
  case atStart=>exact ⟨0,[],[],false,_,_,by omega,rfl,rfl,P0,by simp,by simp,show _=_ by rfl⟩
  case round=>
   obtain ⟨i,ns,ts,on,nv,tv,hi,rfl,rfl,P,hnl,htl,HS⟩:=hrel
   by_cases hlt:(i:Int)<(ws.length:Int)
   ·have aG:i<ws.length:=by omega
    obtain rfl:=HA.out (by omega)
    have cw:=HC.out wr P.vK i aG
    have HT:Aside _:=HS.out.trans (OQ (by omega) aG ns ts on)
    have HX:=HL.out ws[i] (List.getElem_mem aG)
    have hif:(i:Int)<(form.length:Int):=by omega
    clear HS
    generalize ws[i]=x at *
    go_upto_region 11 with fail
    have hget:∀h,({ data:=form.toArray }:ByteArray)[i]'h=form[i]:=fun _=>rfl
    rw [hget]
    clear hget
    generalize form[i]=f at *
    obtain ⟨d0,d1,d2,d3,d4⟩:=P.cell
    by_cases h78:f.toNat=78
    ·have acK:f=78:=UInt8.toNat_inj.1 h78
     have HT2:Aside _:=HT.out.trans (if_pos acK)
     clear HT acK
     generalize f.toNat=y at *
     subst y
     have hN:=wJ x HX wr (HG.out wr P.vK)
     go_upto_region 14 with (go_at_call 29;refine hN.mono ?_;rintro e w1 ⟨z,rfl,hz,b1⟩)
     have HZ:Aside _:=hz
     clear hz hN d0 d1 d2 d3 d4 cw
     have P1:=P.below b1
     clear P b1
     obtain ⟨d0,d1,d2,d3,d4⟩:=P1.cell
     obtain ⟨ao,ZY,w2,hr,k0,k1,P2⟩:=P1.addN z (by omega)
     go_upto_region 17 with (at_builtin;refine ib rfl _ _ 46 46 rfl _ _ _ w2 rfl rfl hr ?_)
     generalize w2.setCell ⟨B+1,2,none⟩ (.slice ao (ns.length+1) ZY)=w3 at *
     clear d0 d1 d2 d3 d4 k0 k1 hr P1
     cases Je:gQ x with
     |none=>
      go_wp2_with fail
      exact ⟨rfl,.no P2.vK (by rw [HT2.out,Je])⟩
     |some n=>
      have hzn:=HZ.out n Je
      subst hzn
      go_wp2_with fail
      go_roundg (gk-1)
      case measure=>omega
      case rel=>exact ⟨i+1,_,_,_,_,_,by omega,by go_num,rfl,P2,by simp;omega,by omega,(by show _=_;rw [HT2.out,Je])⟩
    ·have HT1:Aside _:=HT.out.trans (if_neg (YR (by decide) h78))
     by_cases h89:f.toNat=89
     ·have acJ:f=89:=UInt8.toNat_inj.1 h89
      have HT2:Aside _:=HT1.out.trans (if_pos acJ)
      clear HT HT1 acJ h78
      generalize f.toNat=y at *
      subst y
      by_cases hy:x=[121]
      ·subst hy
       have P2:=P.YU true
       go_upto_region 17 with fail
       generalize wr.setCell ⟨B+1,4,none⟩ (.bool true)=w3 at *
       clear d0 d1 d2 d3 d4 P cw
       go_wp2_with fail
       go_roundg (gk-1)
       case measure=>omega
       case rel=>exact ⟨i+1,_,_,_,_,_,by omega,by go_num,rfl,P2,by omega,by omega,(by show _=_;rw [HT2.out,if_pos trivial])⟩
      ·have P2:=P.YU false
       have hy2:(x == [121])=false:=by simpa using hy
       by_cases hn:x=[110]
       ·subst hn
        go_upto_region 17 with fail
        generalize wr.setCell ⟨B+1,4,none⟩ (.bool false)=w3 at *
        clear d0 d1 d2 d3 d4 P cw
        go_wp2_with fail
        go_roundg (gk-1)
        case measure=>omega
        case rel=>exact ⟨i+1,_,_,_,_,_,by omega,by go_num,rfl,P2,by omega,by omega,(by show _=_;rw [HT2.out,if_neg hy,if_pos trivial])⟩
       ·have hn2:(x == [110])=false:=by simpa using hn
        go_upto_region 17 with fail
        generalize wr.setCell ⟨B+1,4,none⟩ (.bool false)=w3 at *
        clear d0 d1 d2 d3 d4 P cw
        go_wp2_with fail
        exact ⟨rfl,.no P2.vK (by rw [HT2.out,if_neg hy,if_neg hn])⟩
     ·have HT2:Aside _:=HT1.out.trans (if_neg (YR (by decide) h89))
      clear HT HT1
      generalize f.toNat=y at *
      obtain ⟨ao,ZY,w2,hr,k0,k1,P2⟩:=P.gz x (by omega)
      go_upto_region 17 with (at_builtin;refine ib rfl _ _ 75 75 rfl _ _ _ w2 rfl rfl hr ?_)
      generalize w2.setCell ⟨B+1,3,none⟩ (.slice ao (ts.length+1) ZY)=w3 at *
      clear d0 d1 d2 d3 d4 k0 k1 hr P cw
      go_wp2_with fail
      go_roundg (gk-1)
      case measure=>omega
      case rel=>exact ⟨i+1,_,_,_,_,_,by omega,by go_num,rfl,P2,by omega,by simp;omega,(by show _=_;rw [HT2.out])⟩
   ·have aG:i=ws.length:=by omega
    obtain ⟨ad9,Np,rfl,_⟩:=BO.row P.ns
    obtain ⟨ad8,Q3,rfl,_⟩:=TxV.row P.ts
    have hbx:=P.box
    obtain ⟨o0,o1,o2,o3,o4,hou⟩:=P.out
    have a0:wr.cell? ⟨B+1,0,none⟩=some (.int .i64 0):=by rw [Lib.cell_of_heap hbx];rfl
    have a1:wr.cell? ⟨B+1,1,none⟩=some (tx word):=by rw [Lib.cell_of_heap hbx];rfl
    have a2:wr.cell? ⟨B+1,2,none⟩=some (.slice ad9 ns.length Np):=by rw [Lib.cell_of_heap hbx];rfl
    have a3:wr.cell? ⟨B+1,3,none⟩=some (.slice ad8 ts.length Q3):=by rw [Lib.cell_of_heap hbx];rfl
    have a4:wr.cell? ⟨B+1,4,none⟩=some (.bool on):=by rw [Lib.cell_of_heap hbx];rfl
    have b0:wr.cell? ⟨B,0,none⟩=some o0:=by rw [Lib.cell_of_heap hou];rfl
    have b1:wr.cell? ⟨B,1,none⟩=some o1:=by rw [Lib.cell_of_heap hou];rfl
    have b2:wr.cell? ⟨B,2,none⟩=some o2:=by rw [Lib.cell_of_heap hou];rfl
    have b3:wr.cell? ⟨B,3,none⟩=some o3:=by rw [Lib.cell_of_heap hou];rfl
    have b4:wr.cell? ⟨B,4,none⟩=some o4:=by rw [Lib.cell_of_heap hou];rfl
    have f0:∀i,wr.frozen? ⟨B,i,none⟩=false:=fun i=>Lib.frozen_of_heap hou i
    have HR:Aside (∀(i:Nat) (v:Value) (V:World),(V.ownsRow (B+2) 3 1 (.slice ad9 ns.length Np) ns.length (ns.map (Value.int .i64))∧V.ownsRow (B+2) 9 1 (.slice ad8 ts.length Q3) ts.length (ts.map fun x=>tx x)∧Below B w V)→((V.setCell ⟨B,i,none⟩ v).ownsRow (B+2) 3 1 (.slice ad9 ns.length Np) ns.length (ns.map (Value.int .i64))∧(V.setCell ⟨B,i,none⟩ v).ownsRow (B+2) 9 1 (.slice ad8 ts.length Q3) ts.length (ts.map fun x=>tx x)∧Below B w (V.setCell ⟨B,i,none⟩ v))):=fun i v V h=>⟨nu h.1 (by omega),nu h.2.1 (by omega),h.2.2.setCell (Nat.le_refl B) _⟩
    go_wp2_with fail
    refine bodyPost_ret (v:=dR 0 word (.slice ad9 ns.length Np) (.slice ad8 ts.length Q3) on) (by simp [results,Tryz.results32,go_sem,b0,b1,b2,b3,b4]) rfl ?_
    have R9:=HR.out 4 (.bool on) _ (HR.out 3 (.slice ad8 ts.length Q3) _ (HR.out 2 (.slice ad9 ns.length Np) _ (HR.out 1 (tx word) _ (HR.out 0 (.int .i64 0) _ ⟨P.ns,P.ts,P.vK⟩))))
    exact .yes R9.2.2 (by rw [HS.out,aG,List.drop_length,←hlen,List.drop_length];rfl) R9.1 R9.2.1
 ·have h4:((ws.length:Int) != (form.length:Int))=true:=by simp;omega
  go_wp2_with fail
  exact ⟨rfl,.no P0.vK (Ao _ _ _ _ _ hlen)⟩
end Go.Proofs.YtippochapiolpaaGreatDoor

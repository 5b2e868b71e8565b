/- Maps that are keyed by int, as functions: what is there, what a look-up answers, what a store and a deletion make of them, and how many there are. The elements are taken as they are. -/
import Derived.Test.YtippochapiolpaaGreatDoorRows
import Derived.WalkKit
import Derived.Maps.OwnSet
import Derived.Maps.OwnOps
import Derived.Maps.Views
import Derived.ChangeAlike
namespace Go.Proofs.YtippochapiolpaaGreatDoor
open Go.RowKit Go.Maps
def self (v:Value):Option (DataW Value×List MemPlace):=some (.held v,[])
def aK (w:World) (g s:Nat) (M:Int→Option Value):Prop:=
 ∃D:DataW Value,w.ownsMap Tryz.prog 3 self g s D∧Maps.size D=s∧(∀a,Maps.has D (.int .i64 a)=(M a).isSome)∧∀a z,D.atKey (.int .i64 a) (.held z)=.held ((M a).getD z)
theorem gZ:Keyed Tryz.prog 3:=int_keyed Tryz.underlying3
theorem Cv {w:World}{g n:Nat}{D:DataW Value}(h:w.ownsMap Tryz.prog 3 self g n D):w.ownsMap Tryz.prog 3 self g (Maps.size D) D:=by
 obtain ⟨es,clock,hb,F,hs,hD⟩:=h
 refine ⟨es,clock,hb,F,?_,hD⟩
 rw [hD];simp [Maps.size,length_sorted]
theorem aK.made (w:World):aK (w.alloc (.map #[] 0)) w.heap.size 0 (fun _=>none):=
 ⟨.map [],World.ownsMap_made w Tryz.prog 3 self,rfl,fun a=>by simp [Maps.has],fun a z=>by simp [DataW.atKey]⟩
theorem aK.keep {w w':World}{g n:Nat}{M:Int→Option Value}(m:aK w g n M) (h:w'.heap[g]? = w.heap[g]?):aK w' g n M:=by
 obtain ⟨D,⟨es,clock,hb,F,hs,hD⟩,hM⟩:=m
 exact ⟨D,⟨es,clock,h.trans hb,F,hs,hD⟩,hM⟩
theorem aK.lt {w:World}{g n:Nat}{M:Int→Option Value}(m:aK w g n M):g<w.heap.size:=by
 obtain ⟨D,h,_⟩:=m
 exact h.lt
theorem aK.isMap {w:World}{g n:Nat}{M:Int→Option Value}(m:aK w g n M):∃es clock,w.heap[g]? = some (.map es clock):=by
 obtain ⟨D,⟨es,clock,hb,_⟩,_⟩:=m
 exact ⟨es,clock,hb⟩
theorem aK.look {w:World}{g n:Nat}{M:Int→Option Value}{t e:TypeId}{z:Value}(m:aK w g n M) (ht:Tryz.prog.underlying t=some (.map 3 e)) (hz:(zeroValue e).run Tryz.prog w=.ok z w) (a:Int) (ha:(Lit.int .i64 a).wf=true) :
 (Instr.lookup t (.map (some g)) (.int .i64 a) false).run Tryz.prog w=.ok ((M a).getD z) w:=by
 obtain ⟨D,h,_,_,hM⟩:=m
 obtain ⟨v,ps,hrun,hv⟩:=h.lookup gZ ht hz (zd:=.held z) (zp:=[]) rfl (keyOf_int_mk Tryz.underlying3 ha)
 rw [hM a z] at hv
 have e:v=(M a).getD z:=by
  simp only [self,Option.some.injEq,Prod.mk.injEq,DataW.held.injEq] at hv
  exact hv.1
 rw [←e];exact hrun
theorem aK.look_ok {w:World}{g n:Nat}{M:Int→Option Value}{t e:TypeId}{z:Value}(m:aK w g n M) (ht:Tryz.prog.underlying t=some (.map 3 e)) (hz:(zeroValue e).run Tryz.prog w=.ok z w) (a:Int) (ha:(Lit.int .i64 a).wf=true) :
 (Instr.lookup t (.map (some g)) (.int .i64 a) true).run Tryz.prog w=.ok (.tuple #[(M a).getD z,.bool (M a).isSome]) w:=by
 obtain ⟨D,h,_,hS,hM⟩:=m
 obtain ⟨v,ps,hrun,hv⟩:=h.look_ok gZ ht hz (zd:=.held z) (zp:=[]) rfl (keyOf_int_mk Tryz.underlying3 ha)
 rw [hM a z] at hv
 have e:v=(M a).getD z:=by
  simp only [self,Option.some.injEq,Prod.mk.injEq,DataW.held.injEq] at hv
  exact hv.1
 rw [←e,←hS a];exact hrun
theorem aK.put {w:World}{g n:Nat}{M:Int→Option Value}{t e:TypeId}(m:aK w g n M) (ht:Tryz.prog.underlying t=some (.map 3 e)) (hn:n<maxLen) (a:Int) (ha:(Lit.int .i64 a).wf=true) (v:Value) :
 ∃w',(Instr.mapUpdate t (.map (some g)) (.int .i64 a) v).run Tryz.prog w=.ok () w'∧aK w' g (if (M a).isSome then n else n+1) (fun i=>if i=a then some v else M i)∧w.grownBy w' (some g):=by
 obtain ⟨D,h,hs,hS,hM⟩:=m
 have hk:=keyOf_int_mk Tryz.underlying3 ha
 obtain ⟨w',hrun,r1,r2⟩:=h.update gZ ht hn hk (d:=.held v) (ps:=[]) rfl
 have hsz:=size_put (k:=.int .i64 a) (h.tidy gZ) (DataW.held v)
 rw [hS a,hs] at hsz
 refine ⟨w',hrun,⟨_,hsz ▸ Cv r1,hsz,fun i=>?_,fun i z=>?_⟩,r2⟩
 ·by_cases e:i=a
  ·subst e;rw [has_put_same h.isMap (gZ.key hk)];simp
  ·rw [has_put_other (by simpa using e),hS i];simp [e]
 ·by_cases e:i=a
  ·subst e
   rw [atKey_put_same h.isMap (gZ.key hk)];simp
  ·rw [atKey_put_other (by simpa using e),hM i];simp [e]
theorem aK.del {w:World}{g n:Nat}{M:Int→Option Value}{t e:TypeId}(m:aK w g n M) (ht:Tryz.prog.underlying t=some (.map 3 e)) (a:Int) (ha:(Lit.int .i64 a).wf=true) (ty:TypeId) :
 ∃w',(Builtin.delete_ #[t,3] ty #[.map (some g),.int .i64 a]).run Tryz.prog w=.ok (.tuple #[]) w'∧aK w' g (if (M a).isSome then n-1 else n) (fun i=>if i=a then none else M i)∧w.grownBy w' (some g):=by
 obtain ⟨D,h,hs,hS,hM⟩:=m
 have hk:=keyOf_int_mk Tryz.underlying3 ha
 obtain ⟨w',hrun,r1,r2⟩:=h.drop gZ ht hk ty
 have hsz:=size_del (k:=.int .i64 a) (h.tidy gZ)
 rw [hS a,hs] at hsz
 have hsz':Maps.size (D.del (.int .i64 a))=if (M a).isSome then n-1 else n:=by split at hsz<;>simp_all<;>omega
 refine ⟨w',hrun,⟨_,hsz' ▸ Cv r1,hsz',fun i=>?_,fun i z=>?_⟩,r2.grown⟩
 ·by_cases e:i=a
  ·subst e;rw [has_del_same];simp
  ·rw [has_del_other (by simpa using e),hS i];simp [e]
 ·by_cases e:i=a
  ·subst e;rw [atKey_del_same];simp
  ·rw [atKey_del_other (by simpa using e),hM i];simp [e]
theorem aK.len {w:World}{g n:Nat}{M:Int→Option Value}{t e:TypeId}(m:aK w g n M) (ht:Tryz.prog.underlying t=some (.map 3 e)) (ty:TypeId) :
 (Builtin.len_ #[t] ty #[.map (some g)]).run Tryz.prog w=.ok (.int .i64 n) w:=by
 obtain ⟨D,h,hs,_⟩:=m
 rw [h.len ht ty,hs]
section
variable {ops:Array Oper}{rest:List Oper}{o:Oper}{a:Act}{w:World}{Q:Exit→Act→World→Prop}
theorem ik (hgd:o.guard=none) (m x v:Operand) (t:TypeId) (hop:o.op=Op.mapUpdate t m x v)
 (e:TypeId) (ht:Tryz.prog.underlying t=some (.map 3 e)) (g n:Nat) (M:Int→Option Value) (hm:a.eval m=.map (some g)) (hown:aK w g n M) (hn:n<maxLen)
 (k:Int) (hx:a.eval x=.int .i64 k) (hk:(Lit.int .i64 k).wf=true) (u:Value) (hv:a.eval v=u)
 (h:∀w',aK w' g (if (M k).isSome then n else n+1) (fun i=>if i=k then some u else M i)→w.grownBy w' (some g)→wpList Tryz.prog ops Q rest (a.put o.dst undef) w'):wpList Tryz.prog ops Q (o :: rest) a w:=by
 refine wpList_plain hgd fun K' hK'=>?_
 obtain ⟨w',hrun,r1,r2⟩:=hown.put ht hn k hk u
 unfold Oper.wp
 simp [execOp,hop,hm,hx,hv,hrun,Result.andThen]
 exact hK' _ _ (h w' r1 r2)
theorem iI (hgd:o.guard=none) (m x:Operand) (t:TypeId) (hop:o.op=Op.lookup t m x false)
 (e:TypeId) (ht:Tryz.prog.underlying t=some (.map 3 e)) (z:Value) (hz:(zeroValue e).run Tryz.prog w=.ok z w) (g n:Nat) (M:Int→Option Value) (hm:a.eval m=.map (some g)) (hown:aK w g n M)
 (k:Int) (hx:a.eval x=.int .i64 k) (hk:(Lit.int .i64 k).wf=true)
 (h:wpList Tryz.prog ops Q rest (a.put o.dst ((M k).getD z)) w):wpList Tryz.prog ops Q (o :: rest) a w:=by
 refine wpList_plain hgd fun K' hK'=>?_
 have hrun:=hown.look ht hz k hk
 unfold Oper.wp
 simp [execOp,hop,hm,hx,hrun,Result.andThen]
 exact hK' _ _ h
theorem xA (hgd:o.guard=none) (m x:Operand) (t:TypeId) (hop:o.op=Op.lookup t m x true)
 (e:TypeId) (ht:Tryz.prog.underlying t=some (.map 3 e)) (z:Value) (hz:(zeroValue e).run Tryz.prog w=.ok z w) (g n:Nat) (M:Int→Option Value) (hm:a.eval m=.map (some g)) (hown:aK w g n M)
 (k:Int) (hx:a.eval x=.int .i64 k) (hk:(Lit.int .i64 k).wf=true)
 (h:wpList Tryz.prog ops Q rest (a.put o.dst (.tuple #[(M k).getD z,.bool (M k).isSome])) w):wpList Tryz.prog ops Q (o :: rest) a w:=by
 refine wpList_plain hgd fun K' hK'=>?_
 have hrun:=hown.look_ok ht hz k hk
 unfold Oper.wp
 simp [execOp,hop,hm,hx,hrun,Result.andThen]
 exact hK' _ _ h
theorem nE (hgd:o.guard=none) (m x:Operand) (t:TypeId) (hop:o.op=Op.call { callee:=Callee.builtin Builtin.delete,args:=#[m,x],argTypes:=#[t,3] })
 (e:TypeId) (ht:Tryz.prog.underlying t=some (.map 3 e)) (g n:Nat) (M:Int→Option Value) (hm:a.eval m=.map (some g)) (hown:aK w g n M)
 (k:Int) (hx:a.eval x=.int .i64 k) (hk:(Lit.int .i64 k).wf=true)
 (h:∀w',aK w' g (if (M k).isSome then n-1 else n) (fun i=>if i=k then none else M i)→w.grownBy w' (some g)→wpList Tryz.prog ops Q rest (a.put o.dst (.tuple #[])) w'):wpList Tryz.prog ops Q (o :: rest) a w:=by
 refine wpList_plain hgd fun K' hK'=>?_
 obtain ⟨w',hrun,r1,r2⟩:=hown.del ht k hk o.type
 unfold Oper.wp
 simp [execOp,hop,resolve,invoke,builtin,hm,hx,hrun,Result.andThen]
 exact hK' _ _ (h w' r1 r2)
theorem il (hgd:o.guard=none) (m:Operand) (t:TypeId) (hop:o.op=Op.call { callee:=Callee.builtin Builtin.len,args:=#[m],argTypes:=#[t] })
 (e:TypeId) (ht:Tryz.prog.underlying t=some (.map 3 e)) (g n:Nat) (M:Int→Option Value) (hm:a.eval m=.map (some g)) (hown:aK w g n M)
 (h:wpList Tryz.prog ops Q rest (a.put o.dst (.int .i64 n)) w):wpList Tryz.prog ops Q (o :: rest) a w:=by
 refine wpList_plain hgd fun K' hK'=>?_
 unfold Oper.wp
 simp [execOp,hop,resolve,invoke,builtin,hm,hown.len ht o.type,Result.andThen]
 exact hK' _ _ h
end
abbrev wp (b:Nat):Value:=.pointer (some ⟨b,0,none⟩)
theorem zero_num (w:World):(zeroValue 3).run Tryz.prog w=.ok (.int .i64 0) w:=by kernel_rfl
abbrev eQ (k:Int):Value:=.iface 25 (.int .i64 k)
def aI (c:Int):Value:=if c=0 then .nilIface else eQ c
theorem aB:aI 0=.nilIface:=rfl
theorem ax {c:Int}(h:c≠0):aI c=eQ c:=if_neg h
section
variable {w w':World}{O:Nat→Prop}
structure Wt (A:Nat→Prop) (w w':World):Prop where
 os:w'.os=w.os
 tape:w'.tape=w.tape
 output:w'.output=w.output
 size:w.heap.size≤w'.heap.size
 block:∀i,i<w.heap.size→¬A i→w'.heap[i]? = w.heap[i]?
theorem Wt.below (A:Nat→Prop) (h:Below w.heap.size w w'):Wt A w w':=⟨h.os,h.tape,h.output,h.size,fun i hi _=>h.block i hi⟩
theorem Wt.grown {A:Nat→Prop}{g:Nat}(h:w.grownBy w' (some g)) (hg:A g):Wt A w w':=⟨h.os,h.tape,h.output,h.size,fun i hi hA=>h.block i hi (fun e=>hA (by rw [Option.some.inj e];exact hg))⟩
theorem Wt.trans {A:Nat→Prop}{w1 w2:World}(h:Wt A w w1) (k:Wt A w1 w2):Wt A w w2:=
 ⟨k.os.trans h.os,k.tape.trans h.tape,k.output.trans h.output,Nat.le_trans h.size k.size,fun i hi hA=>(k.block i (Nat.lt_of_lt_of_le hi h.size) hA).trans (h.block i hi hA)⟩
structure Stp (w w':World) (O O':Nat→Prop):Prop where
 wt:Wt O w w'
 own:∀i,O' i→O i∨w.heap.size≤i
theorem Stp.refl (w:World) (O:Nat→Prop):Stp w w O O:=⟨⟨rfl,rfl,rfl,Nat.le_refl _,fun _ _ _=>rfl⟩,fun _ h=>.inl h⟩
theorem Stp.below {O:Nat→Prop}(h:Below w.heap.size w w'):Stp w w' O O:=⟨.below _ h,fun _ h=>.inl h⟩
theorem Stp.trans {w1 w2:World}{O1 O2:Nat→Prop}(h:Stp w w1 O O1) (k:Stp w1 w2 O1 O2):Stp w w2 O O2:=
 ⟨⟨k.wt.os.trans h.wt.os,k.wt.tape.trans h.wt.tape,k.wt.output.trans h.wt.output,Nat.le_trans h.wt.size k.wt.size,fun i hi hn=>(k.wt.block i (Nat.lt_of_lt_of_le hi h.wt.size) (fun ho=>by
  rcases h.own i ho with e|e
  ·exact hn e
  ·omega)).trans (h.wt.block i hi hn)⟩,
  fun i hi=>by
   rcases k.own i hi with e|e
   ·exact h.own i e
   ·exact .inr (Nat.le_trans h.wt.size e)⟩
theorem Stp.keep {O' P:Nat→Prop}(h:Stp w w' O O') (hP:∀i,P i→¬O i∧i<w.heap.size) (i:Nat) (hi:P i):w'.heap[i]? = w.heap[i]? := h.wt.block i (hP i hi).2 (hP i hi).1
theorem Stp.apart {O' P:Nat→Prop}(h:Stp w w' O O') (hP:∀i,P i→¬O i∧i<w.heap.size) (i:Nat) (hi:P i):¬O' i∧i<w'.heap.size:=by
 obtain ⟨h1,h2⟩:=hP i hi
 refine ⟨fun ho=>?_,Nat.lt_of_lt_of_le h2 h.wt.size⟩
 rcases h.own i ho with e|e
 ·exact h1 e
 ·omega
end
def SMap (w:World) (g s:Nat) (M:List UInt8→Option Value):Prop:=
 ∃D:DataW Value,w.ownsMap Tryz.prog 9 self g s D∧Maps.size D=s∧(∀a,Maps.has D (.string a)=(M a).isSome)∧∀a z,D.atKey (.string a) (.held z)=.held ((M a).getD z)
theorem tK {a:List UInt8}(h:a.length≤maxLen):keyOf Tryz.prog 9 (.string ⟨a.toArray⟩)=some (.string a):=by
 have hs:(⟨a.toArray⟩:ByteArray).size=a.length:=by simp [ByteArray.size]
 simp [keyOf,Tryz.underlying9,mapKey,hs,h]
theorem jl:Keyed Tryz.prog 9:=string_keyed Tryz.underlying9
theorem Aa {w:World}{g n:Nat}{D:DataW Value}(h:w.ownsMap Tryz.prog 9 self g n D):w.ownsMap Tryz.prog 9 self g (Maps.size D) D:=by
 obtain ⟨es,clock,hb,F,hs,hD⟩:=h
 refine ⟨es,clock,hb,F,?_,hD⟩
 rw [hD];simp [Maps.size,length_sorted]
theorem SMap.made (w:World):SMap (w.alloc (.map #[] 0)) w.heap.size 0 (fun _=>none):=
 ⟨.map [],World.ownsMap_made w Tryz.prog 9 self,rfl,fun a=>by simp [Maps.has],fun a z=>by simp [DataW.atKey]⟩
theorem SMap.keep {w w':World}{g n:Nat}{M:List UInt8→Option Value}(m:SMap w g n M) (h:w'.heap[g]? = w.heap[g]?):SMap w' g n M:=by
 obtain ⟨D,⟨es,clock,hb,F,hs,hD⟩,hM⟩:=m
 exact ⟨D,⟨es,clock,h.trans hb,F,hs,hD⟩,hM⟩
theorem SMap.lt {w:World}{g n:Nat}{M:List UInt8→Option Value}(m:SMap w g n M):g<w.heap.size:=by
 obtain ⟨D,h,_⟩:=m
 exact h.lt
theorem SMap.isMap {w:World}{g n:Nat}{M:List UInt8→Option Value}(m:SMap w g n M):∃es clock,w.heap[g]? = some (.map es clock):=by
 obtain ⟨D,⟨es,clock,hb,_⟩,_⟩:=m
 exact ⟨es,clock,hb⟩
theorem SMap.look_ok {w:World}{g n:Nat}{M:List UInt8→Option Value}{t e:TypeId}{z:Value}(m:SMap w g n M) (ht:Tryz.prog.underlying t=some (.map 9 e)) (hz:(zeroValue e).run Tryz.prog w=.ok z w) (a:List UInt8) (ha:a.length≤maxLen) :
 (Instr.lookup t (.map (some g)) (.string ⟨a.toArray⟩) true).run Tryz.prog w=.ok (.tuple #[(M a).getD z,.bool (M a).isSome]) w:=by
 obtain ⟨D,h,_,hS,hM⟩:=m
 obtain ⟨v,ps,hrun,hv⟩:=h.look_ok jl ht hz (zd:=.held z) (zp:=[]) rfl (tK ha)
 rw [hM a z] at hv
 have e:v=(M a).getD z:=by
  simp only [self,Option.some.injEq,Prod.mk.injEq,DataW.held.injEq] at hv
  exact hv.1
 rw [←e,←hS a];exact hrun
theorem SMap.put {w:World}{g n:Nat}{M:List UInt8→Option Value}{t e:TypeId}(m:SMap w g n M) (ht:Tryz.prog.underlying t=some (.map 9 e)) (hn:n<maxLen) (a:List UInt8) (ha:a.length≤maxLen) (v:Value) :
 ∃w',(Instr.mapUpdate t (.map (some g)) (.string ⟨a.toArray⟩) v).run Tryz.prog w=.ok () w'∧SMap w' g (if (M a).isSome then n else n+1) (fun i=>if i=a then some v else M i)∧w.grownBy w' (some g):=by
 obtain ⟨D,h,hs,hS,hM⟩:=m
 have hk:=tK ha
 obtain ⟨w',hrun,r1,r2⟩:=h.update jl ht hn hk (d:=.held v) (ps:=[]) rfl
 have hsz:=size_put (k:=.string a) (h.tidy jl) (DataW.held v)
 rw [hS a,hs] at hsz
 refine ⟨w',hrun,⟨_,hsz ▸ Aa r1,hsz,fun i=>?_,fun i z=>?_⟩,r2⟩
 ·by_cases e:i=a
  ·subst e;rw [has_put_same h.isMap (jl.key hk)];simp
  ·rw [has_put_other (by simpa using e),hS i];simp [e]
 ·by_cases e:i=a
  ·subst e
   rw [atKey_put_same h.isMap (jl.key hk)];simp
  ·rw [atKey_put_other (by simpa using e),hM i];simp [e]
theorem SMap.del {w:World}{g n:Nat}{M:List UInt8→Option Value}{t e:TypeId}(m:SMap w g n M) (ht:Tryz.prog.underlying t=some (.map 9 e)) (a:List UInt8) (ha:a.length≤maxLen) (ty:TypeId) :
 ∃w',(Builtin.delete_ #[t,9] ty #[.map (some g),.string ⟨a.toArray⟩]).run Tryz.prog w=.ok (.tuple #[]) w'∧SMap w' g (if (M a).isSome then n-1 else n) (fun i=>if i=a then none else M i)∧w.grownBy w' (some g):=by
 obtain ⟨D,h,hs,hS,hM⟩:=m
 have hk:=tK ha
 obtain ⟨w',hrun,r1,r2⟩:=h.drop jl ht hk ty
 have hsz:=size_del (k:=.string a) (h.tidy jl)
 rw [hS a,hs] at hsz
 have hsz':Maps.size (D.del (.string a))=if (M a).isSome then n-1 else n:=by split at hsz<;>simp_all<;>omega
 refine ⟨w',hrun,⟨_,hsz' ▸ Aa r1,hsz',fun i=>?_,fun i z=>?_⟩,r2.grown⟩
 ·by_cases e:i=a
  ·subst e;rw [has_del_same];simp
  ·rw [has_del_other (by simpa using e),hS i];simp [e]
 ·by_cases e:i=a
  ·subst e;rw [atKey_del_same];simp
  ·rw [atKey_del_other (by simpa using e),hM i];simp [e]
theorem SMap.len {w:World}{g n:Nat}{M:List UInt8→Option Value}{t e:TypeId}(m:SMap w g n M) (ht:Tryz.prog.underlying t=some (.map 9 e)) (ty:TypeId) :
 (Builtin.len_ #[t] ty #[.map (some g)]).run Tryz.prog w=.ok (.int .i64 n) w:=by
 obtain ⟨D,h,hs,_⟩:=m
 rw [h.len ht ty,hs]
section
variable {ops:Array Oper}{rest:List Oper}{o:Oper}{a:Act}{w:World}{Q:Exit→Act→World→Prop}
theorem fZ (hgd:o.guard=none) (m x:Operand) (t:TypeId) (hop:o.op=Op.lookup t m x true)
 (e:TypeId) (ht:Tryz.prog.underlying t=some (.map 9 e)) (z:Value) (hz:(zeroValue e).run Tryz.prog w=.ok z w) (g n:Nat) (M:List UInt8→Option Value) (hm:a.eval m=.map (some g)) (hown:SMap w g n M)
 (k:List UInt8) (hx:a.eval x=.string ⟨k.toArray⟩) (hk:k.length≤maxLen)
 (h:wpList Tryz.prog ops Q rest (a.put o.dst (.tuple #[(M k).getD z,.bool (M k).isSome])) w):wpList Tryz.prog ops Q (o :: rest) a w:=by
 refine wpList_plain hgd fun K' hK'=>?_
 have hrun:=hown.look_ok ht hz k hk
 unfold Oper.wp
 simp [execOp,hop,hm,hx,hrun,Result.andThen]
 exact hK' _ _ h
theorem Hr (hgd:o.guard=none) (m x:Operand) (t:TypeId) (hop:o.op=Op.call { callee:=Callee.builtin Builtin.delete,args:=#[m,x],argTypes:=#[t,9] })
 (e:TypeId) (ht:Tryz.prog.underlying t=some (.map 9 e)) (g n:Nat) (M:List UInt8→Option Value) (hm:a.eval m=.map (some g)) (hown:SMap w g n M)
 (k:List UInt8) (hx:a.eval x=.string ⟨k.toArray⟩) (hk:k.length≤maxLen)
 (h:∀w',SMap w' g (if (M k).isSome then n-1 else n) (fun i=>if i=k then none else M i)→w.grownBy w' (some g)→wpList Tryz.prog ops Q rest (a.put o.dst (.tuple #[])) w'):wpList Tryz.prog ops Q (o :: rest) a w:=by
 refine wpList_plain hgd fun K' hK'=>?_
 obtain ⟨w',hrun,r1,r2⟩:=hown.del ht k hk o.type
 unfold Oper.wp
 simp [execOp,hop,resolve,invoke,builtin,hm,hx,hrun,Result.andThen]
 exact hK' _ _ (h w' r1 r2)
theorem xz (hgd:o.guard=none) (m:Operand) (t:TypeId) (hop:o.op=Op.call { callee:=Callee.builtin Builtin.len,args:=#[m],argTypes:=#[t] })
 (e:TypeId) (ht:Tryz.prog.underlying t=some (.map 9 e)) (g n:Nat) (M:List UInt8→Option Value) (hm:a.eval m=.map (some g)) (hown:SMap w g n M)
 (h:wpList Tryz.prog ops Q rest (a.put o.dst (.int .i64 n)) w):wpList Tryz.prog ops Q (o :: rest) a w:=by
 refine wpList_plain hgd fun K' hK'=>?_
 unfold Oper.wp
 simp [execOp,hop,resolve,invoke,builtin,hm,hown.len ht o.type,Result.andThen]
 exact hK' _ _ h
end
end Go.Proofs.YtippochapiolpaaGreatDoor

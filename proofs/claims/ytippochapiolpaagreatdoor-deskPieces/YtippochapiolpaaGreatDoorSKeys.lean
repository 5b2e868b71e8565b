/- Ours. -/
import Derived.Test.YtippochapiolpaaGreatDoorRows
import Derived.WalkKit
import Derived.Maps.OwnSet
namespace Go.Proofs.YtippochapiolpaaGreatDoor
open Go.Proofs.Tryz(prog underlying3)
open Option.some(injEq)
open Go.RowKit Go.Maps
def self(v:Value):Option (DataW Value×List MemPlace):=some (.held v,[])
def aK(w:World)(g s:Nat)(M:Int->Option Value):Prop:=
 ∃D:DataW Value,w.ownsMap prog 3 self g s D/\Maps.size D=s/\(∀a,Maps.has D (.int .i64 a)=(M a).isSome)/\∀a z,D.atKey (.int .i64 a) (.held z)=.held ((M a).getD z)
theorem gY:Keyed prog 3:=int_keyed underlying3
theorem Cv{w:World}{g n:Nat}{D:DataW Value}(h:w.ownsMap prog 3 self g n D):w.ownsMap prog 3 self g (Maps.size D) D:=by
 obtain⟨d,a,c,F,e,b⟩:=h;refine⟨d,a,c,F,?_,b⟩;rw[b];simp[Maps.size,length_sorted]
theorem aK.made(w:World):aK (w.alloc (.map #[] 0)) w.heap.size 0 (fun _=>none):=
 ⟨.map [],World.ownsMap_made w prog 3 self,rfl,fun a=>by simp[Maps.has],fun a z=>by simp[DataW.atKey]⟩
theorem aK.keep{w w':World}{g n:Nat}{M:Int->Option Value}(m:aK w g n M)(h:w'.heap[g]? = w.heap[g]?):aK w' g n M:=by
 obtain⟨D,⟨f,a,c,F,b,e⟩,d⟩:=m;exact⟨D,⟨f,a,h.trans c,F,b,e⟩,d⟩
theorem aK.lt{w:World}{g n:Nat}{M:Int->Option Value}(m:aK w g n M):g<w.heap.size:=by
 obtain⟨D,h,_⟩:=m;exact h.lt
theorem aK.isMap{w:World}{g n:Nat}{M:Int->Option Value}(m:aK w g n M):∃b a,w.heap[g]? = some (.map b a):=by
 obtain⟨D,⟨b,a,c,_⟩,_⟩:=m;exact⟨b,a,c⟩
theorem aK.look{w:World}{g n:Nat}{M:Int->Option Value}{t e:TypeId}{z:Value}(m:aK w g n M)(f:prog.underlying t=some (.map 3 e))(d:(zeroValue e).run prog w=.ok z w)(a:Int)(i:(Lit.int .i64 a).wf=true):(Instr.lookup t (.map (some g)) (.int .i64 a) false).run prog w=.ok ((M a).getD z) w:=by
 obtain⟨D,h,_,_,j⟩:=m;obtain⟨v,k,b,c⟩:=h.lookup gY f d (zd:=.held z) (zp:=[]) rfl (keyOf_int_mk underlying3 i);rw[j a z] at c;have e:v=(M a).getD z:=by
  simp only[self,injEq,Prod.mk.injEq,DataW.held.injEq] at c;exact c.1
 rw[<-e];exact b
theorem aK.look_ok{w:World}{g n:Nat}{M:Int->Option Value}{t e:TypeId}{z:Value}(m:aK w g n M)(f:prog.underlying t=some (.map 3 e))(d:(zeroValue e).run prog w=.ok z w)(a:Int)(i:(Lit.int .i64 a).wf=true):(Instr.lookup t (.map (some g)) (.int .i64 a) true).run prog w=.ok (.tuple #[(M a).getD z,.bool (M a).isSome]) w:=by
 obtain⟨D,h,_,j,k⟩:=m;obtain⟨v,l,b,c⟩:=h.look_ok gY f d (zd:=.held z) (zp:=[]) rfl (keyOf_int_mk underlying3 i);rw[k a z] at c;have e:v=(M a).getD z:=by
  simp only[self,injEq,Prod.mk.injEq,DataW.held.injEq] at c;exact c.1
 rw[<-e,<-j a];exact b
theorem aK.put{w:World}{g n:Nat}{M:Int->Option Value}{t e:TypeId}(m:aK w g n M)(q:prog.underlying t=some (.map 3 e))(s:n<maxLen)(a:Int)(u:(Lit.int .i64 a).wf=true)(v:Value):∃c,(Instr.mapUpdate t (.map (some g)) (.int .i64 a) v).run prog w=.ok () c/\aK c g (if (M a).isSome then n else n+1) (fun i=>if i=a then some v else M i)/\w.grownBy c (some g):=by
 obtain⟨D,h,r,l,x⟩:=m;have j:=keyOf_int_mk underlying3 u;obtain⟨c,f,p,o⟩:=h.update gY q s j (d:=.held v) (ps:=[]) rfl;have b:=size_put (k:=.int .i64 a) (h.tidy gY) (DataW.held v);rw[l a,r] at b;refine⟨c,f,⟨_,b ▸ Cv p,b,fun i=>?_,fun i z=>?_⟩,o⟩
 ·by_cases e:i=a
  ·subst e;rw[has_put_same h.isMap (gY.key j)];simp
  ·rw[has_put_other (by simpa using e),l i];simp[e]
 ·by_cases e:i=a
  ·subst e;rw[atKey_put_same h.isMap (gY.key j)];simp
  ·rw[atKey_put_other (by simpa using e),x i];simp[e]
theorem aK.del{w:World}{g n:Nat}{M:Int->Option Value}{t e:TypeId}(m:aK w g n M)(q:prog.underlying t=some (.map 3 e))(a:Int)(u:(Lit.int .i64 a).wf=true)(j:TypeId):∃c,(Builtin.delete_ #[t,3] j #[.map (some g),.int .i64 a]).run prog w=.ok (.tuple #[]) c/\aK c g (if (M a).isSome then n-1 else n) (fun i=>if i=a then none else M i)/\w.grownBy c (some g):=by
 obtain⟨D,h,r,l,v⟩:=m;have s:=keyOf_int_mk underlying3 u;obtain⟨c,f,p,o⟩:=h.drop gY q s j;have d:=size_del (k:=.int .i64 a) (h.tidy gY);rw[l a,r] at d;have b:Maps.size (D.del (.int .i64 a))=if (M a).isSome then n-1 else n:=by split at d<;>simp_all<;>omega
 refine⟨c,f,⟨_,b ▸ Cv p,b,fun i=>?_,fun i z=>?_⟩,o.grown⟩
 ·by_cases e:i=a
  ·subst e;rw[has_del_same];simp
  ·rw[has_del_other (by simpa using e),l i];simp[e]
 ·by_cases e:i=a
  ·subst e;rw[atKey_del_same];simp
  ·rw[atKey_del_other (by simpa using e),v i];simp[e]
theorem aK.len{w:World}{g n:Nat}{M:Int->Option Value}{t e:TypeId}(m:aK w g n M)(b:prog.underlying t=some (.map 3 e))(a:TypeId):(Builtin.len_ #[t] a #[.map (some g)]).run prog w=.ok (.int .i64 n) w:=by
 obtain⟨D,h,c,_⟩:=m;rw[h.len b a,c]
section
variable {ops:Array Oper}{rest:List Oper}{o:Oper}{a:Act}{w:World}{Q:Exit→Act→World→Prop}
theorem ib(j:o.guard=none)(m x v:Operand)(t:TypeId)(f:o.op=Op.mapUpdate t m x v)
 (e:TypeId) (y:prog.underlying t=some (.map 3 e)) (g n:Nat) (M:Int->Option Value) (A:a.eval m=.map (some g)) (d:aK w g n M) (z:n<maxLen)
 (k:Int) (r:a.eval x=.int .i64 k) (B:(Lit.int .i64 k).wf=true) (u:Value) (s:a.eval v=u)
 (h:∀b,aK b g (if (M k).isSome then n else n+1) (fun i=>if i=k then some u else M i)->w.grownBy b (some g)->wpList prog ops Q rest (a.put o.dst undef) b):wpList prog ops Q (o::rest) a w:=by
 refine wpList_plain j fun C l=>?_;obtain⟨b,c,q,p⟩:=d.put y z k B u;unfold Oper.wp;simp[execOp,f,A,r,s,c,Result.andThen];exact l _ _ (h b q p)
theorem iH(f:o.guard=none)(m x:Operand)(t:TypeId)(d:o.op=Op.lookup t m x false)
 (e:TypeId) (p:prog.underlying t=some (.map 3 e)) (z:Value) (j:(zeroValue e).run prog w=.ok z w) (g n:Nat) (M:Int->Option Value) (q:a.eval m=.map (some g)) (c:aK w g n M)
 (k:Int) (l:a.eval x=.int .i64 k) (r:(Lit.int .i64 k).wf=true)
 (h:wpList prog ops Q rest (a.put o.dst ((M k).getD z)) w):wpList prog ops Q (o::rest) a w:=by
 refine wpList_plain f fun s i=>?_;have b:=c.look p j k r;unfold Oper.wp;simp[execOp,d,q,l,b,Result.andThen];exact i _ _ h
theorem xA(f:o.guard=none)(m x:Operand)(t:TypeId)(d:o.op=Op.lookup t m x true)
 (e:TypeId) (p:prog.underlying t=some (.map 3 e)) (z:Value) (j:(zeroValue e).run prog w=.ok z w) (g n:Nat) (M:Int->Option Value) (q:a.eval m=.map (some g)) (c:aK w g n M)
 (k:Int) (l:a.eval x=.int .i64 k) (r:(Lit.int .i64 k).wf=true)
 (h:wpList prog ops Q rest (a.put o.dst (.tuple #[(M k).getD z,.bool (M k).isSome])) w):wpList prog ops Q (o::rest) a w:=by
 refine wpList_plain f fun s i=>?_;have b:=c.look_ok p j k r;unfold Oper.wp;simp[execOp,d,q,l,b,Result.andThen];exact i _ _ h
theorem nE(j:o.guard=none)(m x:Operand)(t:TypeId)(f:o.op=Op.call { callee:=Callee.builtin Builtin.delete,args:=#[m,x],argTypes:=#[t,3] })
 (e:TypeId) (s:prog.underlying t=some (.map 3 e)) (g n:Nat) (M:Int->Option Value) (u:a.eval m=.map (some g)) (d:aK w g n M)
 (k:Int) (r:a.eval x=.int .i64 k) (v:(Lit.int .i64 k).wf=true)
 (h:∀b,aK b g (if (M k).isSome then n-1 else n) (fun i=>if i=k then none else M i)->w.grownBy b (some g)->wpList prog ops Q rest (a.put o.dst (.tuple #[])) b):wpList prog ops Q (o::rest) a w:=by
 refine wpList_plain j fun y l=>?_;obtain⟨b,c,q,p⟩:=d.del s k v o.type;unfold Oper.wp;simp[execOp,f,resolve,invoke,builtin,u,r,c,Result.andThen];exact l _ _ (h b q p)
theorem ik(d:o.guard=none)(m:Operand)(t:TypeId)(c:o.op=Op.call { callee:=Callee.builtin Builtin.len,args:=#[m],argTypes:=#[t] })
 (e:TypeId) (i:prog.underlying t=some (.map 3 e)) (g n:Nat) (M:Int->Option Value) (j:a.eval m=.map (some g)) (b:aK w g n M)
 (h:wpList prog ops Q rest (a.put o.dst (.int .i64 n)) w):wpList prog ops Q (o::rest) a w:=by
 refine wpList_plain d fun k f=>?_;unfold Oper.wp;simp[execOp,c,resolve,invoke,builtin,j,b.len i o.type,Result.andThen];exact f _ _ h
end
abbrev wp(b:Nat):Value:=.pointer (some ⟨b,0,none⟩)
theorem zero_num(w:World):(zeroValue 3).run prog w=.ok (.int .i64 0) w:=by kernel_rfl
abbrev eF(k:Int):Value:=.iface 25 (.int .i64 k)
def aI(c:Int):Value:=if c=0 then .nilIface else eF c
theorem aB:aI 0=.nilIface:=rfl
theorem ax{c:Int}(h:c≠0):aI c=eF c:=if_neg h
section
variable {w w':World}{O:Nat→Prop}
structure Wt (A:Nat->Prop) (w w':World):Prop where
 os:w'.os=w.os
 tape:w'.tape=w.tape
 output:w'.output=w.output
 size:w.heap.size<=w'.heap.size
 block:∀i,i<w.heap.size->¬A i->w'.heap[i]? = w.heap[i]?
theorem Wt.below(A:Nat->Prop)(h:Below w.heap.size w w'):Wt A w w':=⟨h.os,h.tape,h.output,h.size,fun i a _=>h.block i a⟩
theorem Wt.grown{A:Nat->Prop}{g:Nat}(h:w.grownBy w' (some g))(b:A g):Wt A w w':=⟨h.os,h.tape,h.output,h.size,fun i a c=>h.block i a (fun e=>c (by rw[Option.some.inj e];exact b))⟩
theorem Wt.trans{A:Nat->Prop}{w1 w2:World}(h:Wt A w w1)(k:Wt A w1 w2):Wt A w w2:=
 ⟨k.os.trans h.os,k.tape.trans h.tape,k.output.trans h.output,Nat.le_trans h.size k.size,fun i a b=>(k.block i (Nat.lt_of_lt_of_le a h.size) b).trans (h.block i a b)⟩
structure Stp (w w':World) (O O':Nat->Prop):Prop where
 wt:Wt O w w'
 own:∀i,O' i->O i\/w.heap.size<=i
theorem Stp.refl(w:World)(O:Nat->Prop):Stp w w O O:=⟨⟨rfl,rfl,rfl,Nat.le_refl _,fun _ _ _=>rfl⟩,fun _ h=>.inl h⟩
theorem Stp.below{O:Nat->Prop}(h:Below w.heap.size w w'):Stp w w' O O:=⟨.below _ h,fun _ h=>.inl h⟩
theorem Stp.trans{w1 w2:World}{d c:Nat->Prop}(h:Stp w w1 O d)(k:Stp w1 w2 d c):Stp w w2 O c:=
 ⟨⟨k.wt.os.trans h.wt.os,k.wt.tape.trans h.wt.tape,k.wt.output.trans h.wt.output,Nat.le_trans h.wt.size k.wt.size,fun i a b=>(k.wt.block i (Nat.lt_of_lt_of_le a h.wt.size) (fun f=>by
  rcases h.own i f with e|e
  ·exact b e
  ·omega)).trans (h.wt.block i a b)⟩,
  fun i a=>by
   rcases k.own i a with e|e
   ·exact h.own i e
   ·exact .inr (Nat.le_trans h.wt.size e)⟩
theorem Stp.keep{O' P:Nat->Prop}(h:Stp w w' O O')(b:∀i,P i->¬O i/\i<w.heap.size)(i:Nat)(a:P i):w'.heap[i]? = w.heap[i]? := h.wt.block i (b i a).2 (b i a).1
theorem Stp.apart{O' P:Nat->Prop}(h:Stp w w' O O')(c:∀i,P i->¬O i/\i<w.heap.size)(i:Nat)(b:P i):¬O' i/\i<w'.heap.size:=by
 obtain⟨f,d⟩:=c i b;refine⟨fun a=>?_,Nat.lt_of_lt_of_le d h.wt.size⟩;rcases h.own i a with e|e
 ·exact f e
 ·omega
end
def SMap(w:World)(g s:Nat)(M:List UInt8->Option Value):Prop:=
 ∃D:DataW Value,w.ownsMap prog 9 self g s D/\Maps.size D=s/\(∀a,Maps.has D (.string a)=(M a).isSome)/\∀a z,D.atKey (.string a) (.held z)=.held ((M a).getD z)
theorem tK{a:List UInt8}(h:a.length<=maxLen):keyOf prog 9 (.string ⟨a.toArray⟩)=some (.string a):=by
 have b:(⟨a.toArray⟩:ByteArray).size=a.length:=by simp[ByteArray.size]
 simp[keyOf,Tryz.underlying9,mapKey,b,h]
theorem ji:Keyed prog 9:=string_keyed Tryz.underlying9
theorem Aa{w:World}{g n:Nat}{D:DataW Value}(h:w.ownsMap prog 9 self g n D):w.ownsMap prog 9 self g (Maps.size D) D:=by
 obtain⟨d,a,c,F,e,b⟩:=h;refine⟨d,a,c,F,?_,b⟩;rw[b];simp[Maps.size,length_sorted]
theorem SMap.made(w:World):SMap (w.alloc (.map #[] 0)) w.heap.size 0 (fun _=>none):=
 ⟨.map [],World.ownsMap_made w prog 9 self,rfl,fun a=>by simp[Maps.has],fun a z=>by simp[DataW.atKey]⟩
theorem SMap.keep{w w':World}{g n:Nat}{M:List UInt8->Option Value}(m:SMap w g n M)(h:w'.heap[g]? = w.heap[g]?):SMap w' g n M:=by
 obtain⟨D,⟨f,a,c,F,b,e⟩,d⟩:=m;exact⟨D,⟨f,a,h.trans c,F,b,e⟩,d⟩
theorem SMap.lt{w:World}{g n:Nat}{M:List UInt8->Option Value}(m:SMap w g n M):g<w.heap.size:=by
 obtain⟨D,h,_⟩:=m;exact h.lt
theorem SMap.isMap{w:World}{g n:Nat}{M:List UInt8->Option Value}(m:SMap w g n M):∃b a,w.heap[g]? = some (.map b a):=by
 obtain⟨D,⟨b,a,c,_⟩,_⟩:=m;exact⟨b,a,c⟩
theorem SMap.look_ok{w:World}{g n:Nat}{M:List UInt8->Option Value}{t e:TypeId}{z:Value}(m:SMap w g n M)(f:prog.underlying t=some (.map 9 e))(d:(zeroValue e).run prog w=.ok z w)(a:List UInt8)(i:a.length<=maxLen):(Instr.lookup t (.map (some g)) (.string ⟨a.toArray⟩) true).run prog w=.ok (.tuple #[(M a).getD z,.bool (M a).isSome]) w:=by
 obtain⟨D,h,_,j,k⟩:=m;obtain⟨v,l,b,c⟩:=h.look_ok ji f d (zd:=.held z) (zp:=[]) rfl (tK i);rw[k a z] at c;have e:v=(M a).getD z:=by
  simp only[self,injEq,Prod.mk.injEq,DataW.held.injEq] at c;exact c.1
 rw[<-e,<-j a];exact b
theorem SMap.put{w:World}{g n:Nat}{M:List UInt8->Option Value}{t e:TypeId}(m:SMap w g n M)(q:prog.underlying t=some (.map 9 e))(s:n<maxLen)(a:List UInt8)(u:a.length<=maxLen)(v:Value):∃c,(Instr.mapUpdate t (.map (some g)) (.string ⟨a.toArray⟩) v).run prog w=.ok () c/\SMap c g (if (M a).isSome then n else n+1) (fun i=>if i=a then some v else M i)/\w.grownBy c (some g):=by
 obtain⟨D,h,r,l,x⟩:=m;have j:=tK u;obtain⟨c,f,p,o⟩:=h.update ji q s j (d:=.held v) (ps:=[]) rfl;have b:=size_put (k:=.string a) (h.tidy ji) (DataW.held v);rw[l a,r] at b;refine⟨c,f,⟨_,b ▸ Aa p,b,fun i=>?_,fun i z=>?_⟩,o⟩
 ·by_cases e:i=a
  ·subst e;rw[has_put_same h.isMap (ji.key j)];simp
  ·rw[has_put_other (by simpa using e),l i];simp[e]
 ·by_cases e:i=a
  ·subst e;rw[atKey_put_same h.isMap (ji.key j)];simp
  ·rw[atKey_put_other (by simpa using e),x i];simp[e]
theorem SMap.del{w:World}{g n:Nat}{M:List UInt8->Option Value}{t e:TypeId}(m:SMap w g n M)(q:prog.underlying t=some (.map 9 e))(a:List UInt8)(u:a.length<=maxLen)(j:TypeId):∃c,(Builtin.delete_ #[t,9] j #[.map (some g),.string ⟨a.toArray⟩]).run prog w=.ok (.tuple #[]) c/\SMap c g (if (M a).isSome then n-1 else n) (fun i=>if i=a then none else M i)/\w.grownBy c (some g):=by
 obtain⟨D,h,r,l,v⟩:=m;have s:=tK u;obtain⟨c,f,p,o⟩:=h.drop ji q s j;have d:=size_del (k:=.string a) (h.tidy ji);rw[l a,r] at d;have b:Maps.size (D.del (.string a))=if (M a).isSome then n-1 else n:=by split at d<;>simp_all<;>omega
 refine⟨c,f,⟨_,b ▸ Aa p,b,fun i=>?_,fun i z=>?_⟩,o.grown⟩
 ·by_cases e:i=a
  ·subst e;rw[has_del_same];simp
  ·rw[has_del_other (by simpa using e),l i];simp[e]
 ·by_cases e:i=a
  ·subst e;rw[atKey_del_same];simp
  ·rw[atKey_del_other (by simpa using e),v i];simp[e]
theorem SMap.len{w:World}{g n:Nat}{M:List UInt8->Option Value}{t e:TypeId}(m:SMap w g n M)(b:prog.underlying t=some (.map 9 e))(a:TypeId):(Builtin.len_ #[t] a #[.map (some g)]).run prog w=.ok (.int .i64 n) w:=by
 obtain⟨D,h,c,_⟩:=m;rw[h.len b a,c]
section
variable {ops:Array Oper}{rest:List Oper}{o:Oper}{a:Act}{w:World}{Q:Exit→Act→World→Prop}
theorem fT(f:o.guard=none)(m x:Operand)(t:TypeId)(d:o.op=Op.lookup t m x true)
 (e:TypeId) (p:prog.underlying t=some (.map 9 e)) (z:Value) (j:(zeroValue e).run prog w=.ok z w) (g n:Nat) (M:List UInt8->Option Value) (q:a.eval m=.map (some g)) (c:SMap w g n M)
 (k:List UInt8) (l:a.eval x=.string ⟨k.toArray⟩) (r:k.length<=maxLen)
 (h:wpList prog ops Q rest (a.put o.dst (.tuple #[(M k).getD z,.bool (M k).isSome])) w):wpList prog ops Q (o::rest) a w:=by
 refine wpList_plain f fun s i=>?_;have b:=c.look_ok p j k r;unfold Oper.wp;simp[execOp,d,q,l,b,Result.andThen];exact i _ _ h
theorem Hr(j:o.guard=none)(m x:Operand)(t:TypeId)(f:o.op=Op.call { callee:=Callee.builtin Builtin.delete,args:=#[m,x],argTypes:=#[t,9] })
 (e:TypeId) (s:prog.underlying t=some (.map 9 e)) (g n:Nat) (M:List UInt8->Option Value) (u:a.eval m=.map (some g)) (d:SMap w g n M)
 (k:List UInt8) (r:a.eval x=.string ⟨k.toArray⟩) (v:k.length<=maxLen)
 (h:∀b,SMap b g (if (M k).isSome then n-1 else n) (fun i=>if i=k then none else M i)->w.grownBy b (some g)->wpList prog ops Q rest (a.put o.dst (.tuple #[])) b):wpList prog ops Q (o::rest) a w:=by
 refine wpList_plain j fun y l=>?_;obtain⟨b,c,q,p⟩:=d.del s k v o.type;unfold Oper.wp;simp[execOp,f,resolve,invoke,builtin,u,r,c,Result.andThen];exact l _ _ (h b q p)
theorem xz(d:o.guard=none)(m:Operand)(t:TypeId)(c:o.op=Op.call { callee:=Callee.builtin Builtin.len,args:=#[m],argTypes:=#[t] })
 (e:TypeId) (i:prog.underlying t=some (.map 9 e)) (g n:Nat) (M:List UInt8->Option Value) (j:a.eval m=.map (some g)) (b:SMap w g n M)
 (h:wpList prog ops Q rest (a.put o.dst (.int .i64 n)) w):wpList prog ops Q (o::rest) a w:=by
 refine wpList_plain d fun k f=>?_;unfold Oper.wp;simp[execOp,c,resolve,invoke,builtin,j,b.len i o.type,Result.andThen];exact f _ _ h
end
end Go.Proofs.YtippochapiolpaaGreatDoor

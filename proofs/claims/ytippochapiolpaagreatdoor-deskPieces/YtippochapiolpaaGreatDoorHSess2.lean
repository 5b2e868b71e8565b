/- Session, by its Go text: over whatever the clerk keeps. -/
import Derived.Test.YtippochapiolpaaGreatDoorHIter
import Derived.Shelf.Strings.BuilderK
set_option maxHeartbeats 4000000
set_option maxRecDepth 100000
namespace Go.Proofs.YtippochapiolpaaGreatDoor
open Go.RowKit Go.Shelf
attribute [local go_sem] Oper.semAt_some
structure LF (w0:World) (z0:az) (CK:Nat→List az→az→(Nat→Prop)→World→Prop):Prop where
 keep:∀cb pre out F W W' B,CK cb pre out F W→Wt B W W'→(∀i,B i→¬F i∧9≤i)→CK cb pre out F W'
 foot:∀cb pre out F W,CK cb pre out F W→∀i,F i→w0.heap.size≤i∧i<W.heap.size
 ans:∀cb pre x t out F W,CK cb pre out F W→bL z0=pre ++ x :: t→Calls Tryz.prog 10 #[wp cb,tx x] W fun e W'=>∃a F',e=.returned (tx a)∧a.length≤100000∧CK cb (pre ++ [x]) (out ++ (a ++ [10])) F' W'∧Stp W W' F F'
structure SJ (w0:World) (CK:Nat→List az→az→(Nat→Prop)→World→Prop) (cb bb:Nat) (ids:List Nat) (fx:List (Nat×Obj)) (pre:List az) (W:World) (out:az) (F:Nat→Prop) (bg:Nat):Prop where
 ck:CK cb pre out F W
 bd:BD w0.heap.size W bb bg out
 len:out.length≤pre.length*100001
 ap:∀i∈ids,¬F i∧i≠bb∧i≠bg∧w0.heap.size≤i∧i<W.heap.size
 bf:¬F bb∧¬F bg
 fx:∀y∈fx,W.heap[y.1]? = some y.2
 vK:Below w0.heap.size w0 W
def SJx (w0:World) (CK:Nat→List az→az→(Nat→Prop)→World→Prop) (cb bb:Nat) (ids:List Nat) (fx:List (Nat×Obj)) (pre:List az) (W:World):Prop:=∃out F bg,SJ w0 CK cb bb ids fx pre W out F bg
section
variable {w0 W W':World}{z0:az}{CK:Nat→List az→az→(Nat→Prop)→World→Prop}{cb bb bg:Nat}{ids:List Nat}{fx:List (Nat×Obj)}{pre:List az}{out:az}{F:Nat→Prop}
theorem SJ.turn (H:LF w0 z0 CK) (hG:9≤w0.heap.size) (h:SJ w0 CK cb bb ids fx pre W out F bg) {L:Nat}(hL:L∈ids) (k:Wt (fun i=>i=L) W W') {fx':List (Nat×Obj)}(hf:∀y∈fx',y∈fx∧y.1≠L∨W'.heap[y.1]? = some y.2):SJ w0 CK cb bb ids fx' pre W' out F bg:=by
 obtain ⟨a1,a2,a3,a4,a5⟩:=h.ap L hL
 refine ⟨H.keep _ _ _ _ _ _ _ h.ck k (fun i hi=>by rw [hi];exact ⟨a1,by omega⟩),h.bd.kept (fun i hi=>k.block i (h.bd.lt i hi) (fun e=>?_)),h.len,fun i hi=>?_,h.bf,fun y hy=>?_,?_⟩
 ·rcases hi with rfl|rfl
  ·exact a2 e.symm
  ·exact a3 e.symm
 ·obtain ⟨b1,b2,b3,b4,b5⟩:=h.ap i hi
  exact ⟨b1,b2,b3,b4,Nat.lt_of_lt_of_le b5 k.size⟩
 ·rcases hf y hy with ⟨h1,h2⟩|h1
  ·rw [k.block y.1 (Array.getElem?_eq_some_iff.1 (h.fx y h1)).1 h2];exact h.fx y h1
  ·exact h1
 ·exact ⟨k.os.trans h.vK.os,k.tape.trans h.vK.tape,k.output.trans h.vK.output,Nat.le_trans h.vK.size k.size,fun i hi=>(k.block i (Nat.lt_of_lt_of_le hi h.vK.size) (by omega)).trans (h.vK.block i hi)⟩
theorem SJ.line (H:LF w0 z0 CK) (hG:9≤w0.heap.size) (h:SJ w0 CK cb bb ids fx pre W out F bg) {x:az}{t:List az}(hz:bL z0=pre ++ x :: t) (hp:pre.length≤3000) (hfx:∀y∈fx,y.1∈ids) :
 Calls Tryz.prog 10 #[wp cb,tx x] W fun e W2=>∃a,e=.returned (tx a)∧(∀y∈fx,W2.heap[y.1]? = some y.2)∧Calls Tryz.prog 9 #[wp bb,tx a] W2 fun e W3=>∃u,e=.returned (.tuple #[u,.nilIface])∧(∀y∈fx,W3.heap[y.1]? = some y.2)∧Calls Tryz.prog 11 #[wp bb,.int .u8 10] W3 fun e W4=>e=.returned .nilIface∧(∃F' bg',SJ w0 CK cb bb ids fx (pre ++ [x]) W4 (out ++ (a ++ [10])) F' bg')∧∀i∈ids,W4.heap[i]? = W.heap[i]? := by
 refine (H.ans cb pre x t out F W h.ck hz).mono ?_
 rintro e W2 ⟨a,F',rfl,ha,hck,st⟩
 have hbl:=h.bd.lt
 have hF:=H.foot _ _ _ _ _ h.ck
 have acM:∀i,kD bb bg i→¬F i:=fun i hi=>by rcases hi with rfl|rfl;exact h.bf.1;exact h.bf.2
 have FD:∀i,¬F i→i<W.heap.size→W2.heap[i]? = W.heap[i]? ∧ ¬F' i:=fun i h1 h2=>⟨st.wt.block i h2 h1,fun z=>by
  rcases st.own i z with z|z
  ·exact h1 z
  ·omega⟩
 have bd2:BD w0.heap.size W2 bb bg out:=h.bd.kept fun i hi=>(FD i (acM i hi) (hbl i hi)).1
 have fx2:∀y∈fx,W2.heap[y.1]? = some y.2:=fun y hy=>by
  obtain ⟨a1,_,_,_,a5⟩:=h.ap y.1 (hfx y hy)
  rw [(FD y.1 a1 a5).1];exact h.fx y hy
 have hlen:=h.len
 refine ⟨a,rfl,fx2,(bd2.write a (by omega)).mono ?_⟩
 rintro e W3 ⟨u,g3,rfl,bd3,wW⟩
 have hb2:∀i,i∈ids→¬kD bb bg i∧i<W2.heap.size:=fun i hi=>by
  obtain ⟨_,a2,a3,_,a5⟩:=h.ap i hi
  exact ⟨fun z=>by rcases z with z|z;exact a2 z;exact a3 z,Nat.lt_of_lt_of_le a5 st.wt.size⟩
 have fx3:∀y∈fx,W3.heap[y.1]? = some y.2:=fun y hy=>by
  obtain ⟨c1,c2⟩:=hb2 y.1 (hfx y hy)
  rw [wW.wt.block _ c2 c1];exact fx2 y hy
 refine ⟨u,rfl,fx3,(bd3.BQ 10 (by rw [List.length_append];omega)).mono ?_⟩
 rintro e W4 ⟨g4,rfl,bd4,st4⟩
 have I9:=wW.trans st4
 have hn4:∀i,¬kD bb bg i→i<W2.heap.size→¬kD bb g4 i:=fun i h1 h2 z=>by
  rcases I9.own i z with z|z
  ·exact h1 z
  ·omega
 have hF2:=H.foot _ _ _ _ _ hck
 have Rq:∀i,kD bb bg i→¬F' i:=fun i hi=>(FD i (acM i hi) (hbl i hi)).2
 refine ⟨rfl,⟨F',g4,H.keep _ _ _ _ _ _ _ hck I9.wt (fun i hi=>⟨Rq i hi,Nat.le_trans hG (bd2.ge i hi)⟩),?_,?_,fun i hi=>?_,⟨fun z=>?_,fun z=>?_⟩,fun y hy=>?_,?_⟩,fun i hi=>?_⟩
 ·rw [←List.append_assoc];exact bd4
 ·simp only [List.length_append,List.length_cons,List.length_nil];omega
 ·obtain ⟨a1,a2,a3,a4,a5⟩:=h.ap i hi
  obtain ⟨c1,c2⟩:=hb2 i hi
  have c3:=hn4 i c1 c2
  exact ⟨(FD i a1 a5).2,a2,fun e=>c3 (.inr e),a4,Nat.lt_of_lt_of_le c2 I9.wt.size⟩
 ·exact Rq bb (.inl rfl) z
 ·rcases I9.own g4 (.inr rfl) with z2|z2
  ·exact Rq g4 z2 z
  ·have:=(hF2 g4 z).2;omega
 ·obtain ⟨c1,c2⟩:=hb2 y.1 (hfx y hy)
  rw [I9.wt.block _ c2 c1];exact fx2 y hy
 ·exact Stp.newer (Stp.newer h.vK st (fun i hi=>(hF i hi).1) h.vK.size) I9 bd2.ge (Nat.le_trans h.vK.size st.wt.size)
 ·obtain ⟨a1,_,_,_,a5⟩:=h.ap i hi
  obtain ⟨c1,c2⟩:=hb2 i hi
  rw [I9.wt.block _ c2 c1];exact (FD i a1 a5).1
theorem wm (W:World) (L:Nat) (o:Obj):Wt (fun i=>i=L) W (W.putObj L o):=⟨rfl,rfl,rfl,by simp [World.putObj],fun i _ hn=>World.putObj_heap_other hn⟩
theorem JK (W:World) (L:Nat) (u:Value):Wt (fun i=>i=L) W (W.setCell ⟨L,0,none⟩ u):=⟨rfl,rfl,rfl,by simp,fun i _ hn=>Below.heap_setCell _ _ _ _ hn⟩
end
end Go.Proofs.YtippochapiolpaaGreatDoor
namespace Go.Proofs.YtippochapiolpaaGreatDoor
open Go.RowKit Go.Shelf
attribute [local go_sem] Oper.semAt_some
theorem Ui (z:az) (hz:z.length≤100000) (w:World):Calls Tryz.prog 8 #[tx z] w fun e w'=>
 e=.returned (.func (.func 121) #[] #[.pointer (some ⟨w.heap.size+1,0,none⟩),.pointer (some ⟨w.heap.size,0,none⟩),.pointer (some ⟨w.heap.size+2,0,none⟩)])∧
 w'=((w.alloc (.cells #[tx (Lib.trimSuffix z [10])] 9)).alloc (.cells #[.string ⟨#[10]⟩] 9)).alloc (.cells #[.int .i64 0] 3):=by
 have hs:(⟨z.toArray⟩:ByteArray).size=z.length:=by simp [ByteArray.size]
 have hT:∀V,Calls Tryz.prog 24 #[tx z,.string ⟨#[10]⟩] V fun e w'=>e=.returned (tx (Lib.trimSuffix z [10]))∧w'=V:=fun V=>Any.strings_TrimSuffix Tryz.trimSuffixL ⟨z.toArray⟩ ⟨#[10]⟩ V (by rw [hs];omega)
 have hS:=Hw (Lib.trimSuffix z [10])
 go_enter Tryz.func8,Tryz.ntmps8
 go_wp2_with (first
  |(go_at_call 24;refine (hT _).mono ?_;rintro e w1 ⟨rfl,hw1⟩;subst w1)
  |(go_at_call 23;refine (hS _).mono ?_;rintro e w1 ⟨rfl,hw1⟩;subst w1))
 go_ret
 exact ⟨rfl,rfl⟩
theorem tJ:∀l:az,(bL l).length≤l.length+1
 | []=>by simp [bL]
 |c :: l=>by
  have ih:=tJ l
  by_cases h:c=10
  ·subst h;rw [uY];simp only [List.length_cons];omega
  ·cases e:bL l with
   |nil=>exact absurd e (GA l)
   |cons x t=>rw [nJ l h e];rw [e] at ih;simp only [List.length_cons] at ih ⊢;omega
theorem wz (s:az):(Lib.trimSuffix s [10]).length≤s.length:=by
 unfold Lib.trimSuffix
 split
 ·rw [List.length_take];omega
 ·exact Nat.le_refl _
def Sj (w:World) (CK:Nat→List az→az→(Nat→Prop)→World→Prop):Prop:=
 Calls Tryz.prog 6 #[.int .i64 32] w fun e w1=>∃kb,e=.returned (.tuple #[wp kb,.nilIface])∧Calls Tryz.prog 7 #[wp kb] w1 fun e w2=>∃cb F,e=.returned (wp cb)∧CK cb [] [] F w2∧Below w.heap.size w w2
theorem J2 {w:World}{text:az}{CK:Nat→List az→az→(Nat→Prop)→World→Prop}(hl:text.length≤2600) (hG:9≤w.heap.size) (H:LF w (Lib.trimSuffix text [10]) CK) (h0:Sj w CK) :
 Calls Tryz.prog 4 #[tx text] w fun e w'=>∃cb out F V,e=.returned (tx out)∧CK cb (oh text) out F V∧Below w.heap.size w w':=by
 have hL:=Ui text (by omega)
 have f1:Fence.wide.fn 6:=trivial
 have f2:Fence.wide.fn 7:=trivial
 have f3:Fence.wide.fn 8:=trivial
 have hgt:¬(20000:Int)<(text.length:Int):=by omega
 have h0':Calls Tryz.prog 6 #[.int .i64 32] w _:=h0
 refine (callsIn_wide (n:=4)).1 ?_
 refine callsIn_of_wp_marks Tryz.func4 rfl trivial ?_ rfl
 simp only [Tryz.ntmps4,List.size_toArray,List.length_cons,List.length_nil,Nat.reduceAdd,Nat.reduceSub,Array.replicate_succ,Array.replicate_zero,List.push_toArray,List.append_toArray,List.nil_append,List.cons_append]
 gi_wp2_with (first
  |(gi_at_call 6;refine (callsIn_wide.2 h0').mono ?_;rintro e w1 ⟨kb,rfl,hC⟩)
  |(gi_at_call 7;refine (callsIn_wide.2 hC).mono ?_;rintro e w2 ⟨cb,F,rfl,ck,b2⟩)
  |(gi_at_call 8;refine (callsIn_wide.2 (hL _)).mono ?_;rintro e w3 ⟨rfl,hw3⟩;subst w3))
 obtain ⟨z,hz⟩:∃z,w2.heap.size=z:=⟨_,rfl⟩
 obtain ⟨txt,VK⟩:∃txt,Lib.trimSuffix text [10]=txt:=⟨_,rfl⟩
 have htl:txt.length≤2600:=by rw [←VK];exact Nat.le_trans (wz text) hl
 obtain ⟨W0,hW0⟩:∃W0,(((((w2.alloc (.cells #[wp cb] 31)).alloc (.cells #[.pointer none,.slice none 0 0] 36)).alloc (.cells #[tx txt] 9)).alloc (.cells #[.string ⟨#[10]⟩] 9)).alloc (.cells #[.int .i64 0] 3))=W0:=⟨_,rfl⟩
 rw [VK] at H
 rw [VK,hz]
 show Code.wpIn _ _ _ _ _ _ (((((w2.alloc (.cells #[wp cb] 31)).alloc (.cells #[.pointer none,.slice none 0 0] 36)).alloc (.cells #[tx txt] 9)).alloc (.cells #[.string ⟨#[10]⟩] 9)).alloc (.cells #[.int .i64 0] 3))
 rw [hW0]
 have Vp:W0.heap.size=z+5:=by rw [←hW0];simp [hz]
 have bz0:Below z w2 W0:=by
  rw [←hW0,←hz]
  repeat first|exact Below.refl _ _|refine Below.alloc ?_ (by first|omega|(simp<;>omega)) _
 have hat:∀(V:World) (o:Obj),(V.alloc o).heap[V.heap.size]? = some o:=fun V o=>by show (V.heap.push _)[V.heap.size]? = _;rw [Array.getElem?_push,if_pos rfl]
 have e0:W0.heap[z]? = some (.cells #[wp cb] 31):=by
  rw [←hW0,←hz]
  rw [Below.heap_alloc _ _ _ (by simp;omega),Below.heap_alloc _ _ _ (by simp;omega),Below.heap_alloc _ _ _ (by simp;omega),Below.heap_alloc _ _ _ (by simp)]
  exact hat _ _
 have e2:W0.heap[z+1+1]? = some (.cells #[tx txt] 9):=by
  have:=hat ((w2.alloc (.cells #[wp cb] 31)).alloc (.cells #[.pointer none,.slice none 0 0] 36)) (.cells #[tx txt] 9)
  simp only [World.size_alloc,hz] at this
  rw [←hW0,Below.heap_alloc _ _ _ (by simp [hz]),Below.heap_alloc _ _ _ (by simp [hz])]
  exact this
 have e3:W0.heap[z+1+1+1]? = some (.cells #[.string { data:=#[10] }] 9):=by
  have:=hat (((w2.alloc (.cells #[wp cb] 31)).alloc (.cells #[.pointer none,.slice none 0 0] 36)).alloc (.cells #[tx txt] 9)) (.cells #[.string { data:=#[10] }] 9)
  simp only [World.size_alloc,hz] at this
  rw [←hW0,Below.heap_alloc _ _ _ (by simp [hz])]
  exact this
 have e4:W0.heap[z+1+1+2]? = some (.cells #[.int .i64 0] 3):=by
  have:=hat ((((w2.alloc (.cells #[wp cb] 31)).alloc (.cells #[.pointer none,.slice none 0 0] 36)).alloc (.cells #[tx txt] 9)).alloc (.cells #[.string { data:=#[10] }] 9)) (.cells #[.int .i64 0] 3)
  simp only [World.size_alloc,hz] at this
  rw [←hW0];exact this
 have bd0:BD w.heap.size W0 (z+1) (z+1) []:=by
  have h1:=BD.new (n0:=w.heap.size) (w2.alloc (.cells #[wp cb] 31)) (by have:=b2.size;simp;omega)
  simp only [World.size_alloc,hz] at h1
  refine h1.kept fun i hi=>?_
  have:=h1.lt i hi
  simp only [World.size_alloc,hz] at this
  rw [←hW0,Below.heap_alloc _ _ _ (by simp [hz];omega),Below.heap_alloc _ _ _ (by simp [hz];omega),Below.heap_alloc _ _ _ (by simp [hz];omega)]
 have hwz:w.heap.size≤z:=by have:=b2.size;omega
 clear hW0 hat
 refine Gl (D:=z+5) Vp (by omega) rfl (enters_of Tryz.func121 (by kernel_rfl) rfl) ?_
 intro fn rc W1 hrc hW1
 have s1:W1.heap.size=z+7:=by rw [hW1];simp [Vp]
 have hold:∀i,i<z+5→W1.heap[i]? = W0.heap[i]? := fun i hi=>by
  rw [hW1,Below.heap_alloc _ _ _ (by simp [Vp];omega),Below.heap_alloc _ _ _ (by rw [Vp];exact hi)]
 have d5:W1.heap[z+5]? = some (.deferred (some [])):=by
  rw [hW1,Below.heap_alloc _ _ _ (by simp [Vp]),←Vp];exact World.alloc_heap_new _ _
 have d6:W1.heap[z+5+1]? = some (.loop (rc .ready none)):=by
  rw [hW1]
  have:=World.alloc_heap_new (W0.alloc (.deferred (some []))) (.loop (rc .ready none))
  rwa [World.size_alloc,Vp] at this
 have bz1:Below z w2 W1:=by rw [hW1];exact (bz0.alloc (by rw [Vp];omega) _).alloc (by simp [Vp];omega) _
 have QL:Below w.heap.size w W1:=b2.trans (bz1.mono hwz)
 have hF:=H.foot _ _ _ _ _ ck
 obtain ⟨fx,hfx⟩:∃fx:Loop→List (Nat×Obj),fx=fun r=>[(z,.cells #[wp cb] 31),(z+1+1+1,.cells #[.string { data:=#[10] }] 9),(z+1+1+2,.cells #[.int .i64 0] 3),(z+5,.deferred (some [])),(z+5+1,.loop r)]:=⟨_,rfl⟩
 obtain ⟨ids,Bj⟩:∃ids,ids=[z,z+1+1,z+1+1+1,z+1+1+2,z+5,z+5+1]:=⟨_,rfl⟩
 have J0:SJ w CK cb (z+1) ids (fx (rc .ready none)) [] W1 [] F (z+1):=by
  refine ⟨H.keep _ _ _ _ _ _ (fun _=>False) ck ⟨bz1.os,bz1.tape,bz1.output,by rw [s1];omega,fun i hi _=>bz1.block i (by omega)⟩ (fun i hi=>hi.elim),bd0.kept (fun i hi=>hold i (by have:=bd0.lt i hi;omega)),by simp,fun i hi=>?_,⟨fun h=>by have:=(hF _ h).2;omega,fun h=>by have:=(hF _ h).2;omega⟩,fun y hy=>?_,QL⟩
  ·rw [Bj] at hi
   simp only [List.mem_cons,List.not_mem_nil,or_false] at hi
   exact ⟨fun h=>by have:=(hF _ h).2;omega,by omega,by omega,by omega,by omega⟩
  ·rw [hfx] at hy
   simp only [List.mem_cons,List.not_mem_nil,or_false] at hy
   rcases hy with rfl|rfl|rfl|rfl|rfl
   ·exact (hold _ (by omega)).trans e0
   ·exact (hold _ (by omega)).trans e3
   ·exact (hold _ (by omega)).trans e4
   ·exact d5
   ·exact d6
 have hfi:∀r,∀y∈fx r,y.1∈ids:=fun r y hy=>by
  rw [hfx] at hy
  simp only [List.mem_cons,List.not_mem_nil,or_false] at hy
  rw [Bj]
  rcases hy with rfl|rfl|rfl|rfl|rfl<;>simp
 refine (XH (z+5+1) (z+1+1) (z+1+1+1) (z+1+1+2) txt (by omega) W1 (SJx w CK cb (z+1) ids (fx (rc .ready none))) (fun pre W hJ=>?_) (fun pre W u hJ=>?_) ⟨[],F,z+1,J0⟩ ((hold _ (by omega)).trans e2) (fun pre x t W hxt hJ=>?_)).mono ?_
 ·obtain ⟨out,F',bg,h⟩:=hJ
  exact ⟨(fQ (h.fx (z+1+1+1,.cells #[.string { data:=#[10] }] 9) (by rw [hfx];simp))).1,(fQ (h.fx (z+1+1+2,.cells #[.int .i64 0] 3) (by rw [hfx];simp))).1⟩
 ·obtain ⟨out,F',bg,h⟩:=hJ
  exact ⟨out,F',bg,h.turn H hG (by rw [Bj];simp) (JK _ _ _) (fun y hy=>.inl ⟨hy,by
   rw [hfx] at hy
   simp only [List.mem_cons,List.not_mem_nil,or_false] at hy
   rcases hy with rfl|rfl|rfl|rfl|rfl<;>simp<;>omega⟩)⟩
 ·obtain ⟨out,F',bg,h⟩:=hJ
  have m6:=h.fx (z+5+1,.loop (rc .ready none)) (by rw [hfx];simp)
  have hl6:z+5+1<W.heap.size:=(Array.getElem?_eq_some_iff.1 m6).1
  have hsw:∀(V:World) (r r':Loop),z+5+1<V.heap.size→∀y∈fx r',y∈fx r∧y.1≠z+5+1∨(V.putObj (z+5+1) (.loop r')).heap[y.1]? = some y.2:=fun V r r' hV y hy=>by
   rw [hfx] at hy ⊢
   simp only [List.mem_cons,List.not_mem_nil,or_false] at hy
   rcases hy with rfl|rfl|rfl|rfl|rfl
   ·exact .inl ⟨by simp,by simp only;omega⟩
   ·exact .inl ⟨by simp,by simp only;omega⟩
   ·exact .inl ⟨by simp,by simp only;omega⟩
   ·exact .inl ⟨by simp,by simp only;omega⟩
   ·exact .inr (World.putObj_heap_same hV)
  have hi6:z+5+1∈ids:=by rw [Bj];simp
  have hi2:z+1+1∈ids:=by rw [Bj];simp
  have hX:=h.turn (fx':=fx (rc .busy none)) H hG hi6 (wm W (z+5+1) (.loop (rc .busy none))) (hsw W (rc .ready none) (rc .busy none) hl6)
  have hpl:pre.length≤3000:=by
   have h1:=tJ txt
   rw [hxt,List.length_append] at h1
   omega
  have hA:=hX.line H hG hxt hpl (hfi _)
  have k0:(W.putObj (z+5+1) (.loop (rc .busy none))).heap[z]? = some (.cells #[wp cb] 31):=hX.fx (z,.cells #[wp cb] 31) (by rw [hfx];simp)
  have n0:=(fQ k0).1
  have hB2:(W.putObj (z+5+1) (.loop (rc .busy none))).heap[z+1+1]? = W.heap[z+1+1]? := World.putObj_heap_other (by omega)
  have HB2:Aside _:=hB2
  have HSW:Aside _:=hsw
  refine Sn hrc m6 rfl ?_
  have HFX:Aside _:=hfx
  have HID:Aside _:=Bj
  clear hX k0 hB2 hsw hrc hW1 hfx Bj
  have acW:=fun V=>HSW.out V (rc .busy none) (rc .ready none)
  have af4:Aside _:=acW
  clear HSW acW
  generalize rc .busy none=rb at *
  generalize rc .ready none=rd at *
  generalize W.putObj (z+5+1) (.loop (rc .busy none))=X at *
  gi_wp2_with (first
   |(refine ⟨trivial,?_⟩;gi_at_call 10;refine (CallsIn.inRound (z+5+1) (callsIn_wide.2 hA)).mono ?_;rintro e w3 ⟨a,rfl,fx3,hB⟩)
   |(refine ⟨trivial,?_⟩;gi_at_call 9;refine (CallsIn.inRound (z+5+1) (callsIn_wide.2 hB)).mono ?_;rintro e w4 ⟨u,rfl,fx4,hC⟩)
   |(refine ⟨trivial,?_⟩;gi_at_call 11;refine (CallsIn.inRound (z+5+1) (callsIn_wide.2 hC)).mono ?_;rintro e w5 ⟨rfl,hS5,hI5⟩))
  obtain ⟨F2,bg2,h5⟩:=hS5
  have q6:=h5.fx (z+5+1,.loop rb) (by rw [HFX.out];simp)
  have hl5:z+5+1<w5.heap.size:=(Array.getElem?_eq_some_iff.1 q6).1
  refine ⟨q6,rfl,⟨_,_,_,h5.turn H hG hi6 (wm w5 (z+5+1) (.loop rd)) (af4.out w5 hl5)⟩,?_⟩
  rw [World.putObj_heap_other (by omega),hI5 _ hi2]
  exact HB2.out
 ·rintro e W' ⟨hv,out,F',bg,h⟩
  have m6:=h.fx (z+5+1,.loop (rc .ready none)) (by rw [hfx];simp)
  have hl6:z+5+1<W'.heap.size:=(Array.getElem?_eq_some_iff.1 m6).1
  have hi6:z+5+1∈ids:=by rw [Bj];simp
  have hi5:z+5∈ids:=by rw [Bj];simp
  have hX:=h.turn (fx':=[(z+5,.deferred (some []))]) H hG hi6 (wm W' (z+5+1) (.loop (rc .exhausted none))) (fun y hy=>.inl (by
   rw [List.mem_singleton] at hy
   subst hy
   exact ⟨by rw [hfx];simp,by simp only;omega⟩))
  refine ⟨hv,.inl ⟨m6,?_⟩⟩
  clear hrc hW1 m6 hfx Bj
  generalize W'.putObj (z+5+1) (.loop (rc .exhausted none))=X at *
  have hS:=Any.Builder_String_any_k Tryz.stringL Sc w.heap.size (z+1) out X (Lib.IsBuilderF.of hX.bd.is) hX.vK.size
  have d5:=hX.fx (z+5,.deferred (some [])) (by simp)
  gi_wp2_with (refine ⟨trivial,?_⟩;gi_at_call 12;refine (callsIn_wide.2 hS).mono ?_;rintro e w5 ⟨rfl,_,b5,k5⟩)
  have r5:w5.heap[z+5]? = some (.deferred (some [])):=k5 _ _ d5 (by simp) (fun c fz h=>by cases h)
  refine ⟨by simp,.inl ⟨_,_,rfl,run_takeDeferred r5,?_⟩⟩
  refine ⟨tx out,by simp [results,Tryz.results4,go_sem],cb,out,F',X,rfl,by unfold oh;rw [VK];exact hX.ck,?_⟩
  exact (hX.vK.trans b5).grown (grownBy_putObj' _ _ _) (by have:=hX.vK.size;have:=b5.size;omega) (fun k e=>by cases e;omega)
end Go.Proofs.YtippochapiolpaaGreatDoor

/- Ours. -/
import Derived.Test.YtippochapiolpaaGreatDoorHIter
import Derived.Shelf.Strings.BuilderK
set_option maxHeartbeats 4000000
set_option maxRecDepth 100000
namespace Go.Proofs.YtippochapiolpaaGreatDoor
open Go.RowKit.Below(heap_alloc)
open Go.Proofs.Tryz(prog)
open List(length_append length_cons mem_cons not_mem_nil)
open Go.World(size_alloc)
section
open Go.RowKit Go.Shelf
attribute [local go_sem] Oper.semAt_some
structure LD (w0:World) (z0:az) (CK:Nat->List az->az->(Nat->Prop)->World->Prop):Prop where
 keep:∀cb pre out F W W' B,CK cb pre out F W->Wt B W W'->(∀i,B i->¬F i/\9<=i)->CK cb pre out F W'
 foot:∀cb pre out F W,CK cb pre out F W->∀i,F i->w0.heap.size<=i/\i<W.heap.size
 ans:∀cb pre x t out F W,CK cb pre out F W->bL z0=pre++x::t->Calls prog 10 #[wp cb,tx x] W fun e W'=>∃a F',e=.returned (tx a)/\a.length<=100000/\CK cb (pre++[x]) (out++(a++[10])) F' W'/\Stp W W' F F'
structure SJ (w0:World) (CK:Nat->List az->az->(Nat->Prop)->World->Prop) (cb bb:Nat) (ids:List Nat) (fx:List (Nat×Obj)) (pre:List az) (W:World) (out:az) (F:Nat->Prop) (bg:Nat):Prop where
 ck:CK cb pre out F W
 bd:BD w0.heap.size W bb bg out
 len:out.length<=pre.length*100001
 ap:∀i∈ids,¬F i/\i≠bb/\i≠bg/\w0.heap.size<=i/\i<W.heap.size
 bf:¬F bb/\¬F bg
 fx:∀y∈fx,W.heap[y.1]? = some y.2
 vK:Below w0.heap.size w0 W
def SJx(w0:World)(CK:Nat->List az->az->(Nat->Prop)->World->Prop)(cb bb:Nat)(ids:List Nat)(fx:List (Nat×Obj))(pre:List az)(W:World):Prop:=∃out F bg,SJ w0 CK cb bb ids fx pre W out F bg
section
variable {w0 W W':World}{z0:az}{CK:Nat→List az→az→(Nat→Prop)→World→Prop}{cb bb bg:Nat}{ids:List Nat}{fx:List (Nat×Obj)}{pre:List az}{out:az}{F:Nat→Prop}
theorem SJ.turn(H:LD w0 z0 CK)(s:9<=w0.heap.size)(h:SJ w0 CK cb bb ids fx pre W out F bg){L:Nat}(f:L∈ids)(k:Wt (fun i=>i=L) W W'){fx':List (Nat×Obj)}(d:∀y∈fx',y∈fx/\y.1≠L\/W'.heap[y.1]? = some y.2):SJ w0 CK cb bb ids fx' pre W' out F bg:=by
 obtain⟨r,q,p,u,t⟩:=h.ap L f;refine⟨H.keep _ _ _ _ _ _ _ h.ck k (fun i a=>by rw[a];exact⟨r,by omega⟩),h.bd.kept (fun i a=>k.block i (h.bd.lt i a) (fun e=>?_)),h.len,fun i a=>?_,h.bf,fun y c=>?_,?_⟩
 ·rcases a with rfl|rfl
  ·exact q e.symm
  ·exact p e.symm
 ·obtain⟨o,n,m,l,j⟩:=h.ap i a;exact⟨o,n,m,l,Nat.lt_of_lt_of_le j k.size⟩
 ·rcases d y c with⟨b,g⟩|b
  ·rw[k.block y.1 (Array.getElem?_eq_some_iff.1 (h.fx y b)).1 g];exact h.fx y b
  ·exact b
 ·exact⟨k.os.trans h.vK.os,k.tape.trans h.vK.tape,k.output.trans h.vK.output,Nat.le_trans h.vK.size k.size,fun i a=>(k.block i (Nat.lt_of_lt_of_le a h.vK.size) (by omega)).trans (h.vK.block i a)⟩
theorem SJ.line(H:LD w0 z0 CK)(X:9<=w0.heap.size)(h:SJ w0 CK cb bb ids fx pre W out F bg){x:az}{t:List az}(V:bL z0=pre++x::t)(hp:pre.length<=3000)(j:∀y∈fx,y.1∈ids):Calls prog 10 #[wp cb,tx x] W fun e g=>∃a,e=.returned (tx a)/\(∀y∈fx,g.heap[y.1]? = some y.2)/\Calls prog 9 #[wp bb,tx a] g fun e D=>∃u,e=.returned (.tuple #[u,.nilIface])/\(∀y∈fx,D.heap[y.1]? = some y.2)/\Calls prog 11 #[wp bb,.int .u8 10] D fun e O=>e=.returned .nilIface/\(∃B K,SJ w0 CK cb bb ids fx (pre++[x]) O (out++(a++[10])) B K)/\∀i∈ids,O.heap[i]? = W.heap[i]? := by
 refine(H.ans cb pre x t out F W h.ck V).mono ?_;rintro e g ⟨a,B,rfl,ha,q,p⟩;have r:=h.bd.lt;have hF:=H.foot _ _ _ _ _ h.ck;have v:∀i,kD bb bg i->¬F i:=fun i b=>by rcases b with rfl|rfl;exact h.bf.1;exact h.bf.2
 have A:∀i,¬F i->i<W.heap.size->g.heap[i]? = W.heap[i]? /\ ¬B i:=fun i C T=>⟨p.wt.block i T C,fun z=>by
  rcases p.own i z with z|z
  ·exact C z
  ·omega⟩
 have m:BD w0.heap.size g bb bg out:=h.bd.kept fun i b=>(A i (v i b) (r i b)).1;have k:∀y∈fx,g.heap[y.1]? = some y.2:=fun y d=>by
  obtain⟨w,_,_,_,n⟩:=h.ap y.1 (j y d);rw[(A y.1 w n).1];exact h.fx y d
 have S:=h.len;refine⟨a,rfl,k,(m.write a (by omega)).mono ?_⟩;rintro e D ⟨u,g3,rfl,M,R⟩;have c:∀i,i∈ids->¬kD bb bg i/\i<g.heap.size:=fun i b=>by
  obtain⟨_,N,U,_,n⟩:=h.ap i b;exact⟨fun z=>by rcases z with z|z;exact N z;exact U z,Nat.lt_of_lt_of_le n p.wt.size⟩
 have J:∀y∈fx,D.heap[y.1]? = some y.2:=fun y d=>by
  obtain⟨l,f⟩:=c y.1 (j y d);rw[R.wt.block _ f l];exact k y d
 refine⟨u,rfl,J,(M.BQ 10 (by rw[length_append];omega)).mono ?_⟩;rintro e O ⟨s,rfl,L,E⟩;have o:=R.trans E;have G:∀i,¬kD bb bg i->i<g.heap.size->¬kD bb s i:=fun i C T z=>by
  rcases o.own i z with z|z
  ·exact C z
  ·omega
 have I:=H.foot _ _ _ _ _ q;have P:∀i,kD bb bg i->¬B i:=fun i b=>(A i (v i b) (r i b)).2;refine⟨rfl,⟨B,s,H.keep _ _ _ _ _ _ _ q o.wt (fun i b=>⟨P i b,Nat.le_trans X (m.ge i b)⟩),?_,?_,fun i b=>?_,⟨fun z=>?_,fun z=>?_⟩,fun y d=>?_,?_⟩,fun i b=>?_⟩
 ·rw[<-List.append_assoc];exact L
 ·simp only[length_append,length_cons,List.length_nil];omega
 ·obtain⟨w,N,U,Z,n⟩:=h.ap i b;obtain⟨l,f⟩:=c i b;have Y:=G i l f;exact⟨(A i w n).2,N,fun e=>Y (.inr e),Z,Nat.lt_of_lt_of_le f o.wt.size⟩
 ·exact P bb (.inl rfl) z
 ·rcases o.own s (.inr rfl) with Q|Q
  ·exact P s Q z
  ·have:=(I s z).2;omega
 ·obtain⟨l,f⟩:=c y.1 (j y d);rw[o.wt.block _ f l];exact k y d
 ·exact Stp.newer (Stp.newer h.vK p (fun i b=>(hF i b).1) h.vK.size) o m.ge (Nat.le_trans h.vK.size p.wt.size)
 ·obtain⟨w,_,_,_,n⟩:=h.ap i b;obtain⟨l,f⟩:=c i b;rw[o.wt.block _ f l];exact(A i w n).1
theorem wm(W:World)(L:Nat)(o:Obj):Wt (fun i=>i=L) W (W.putObj L o):=⟨rfl,rfl,rfl,by simp[World.putObj],fun i _ a=>World.putObj_heap_other a⟩
theorem JK(W:World)(L:Nat)(u:Value):Wt (fun i=>i=L) W (W.setCell ⟨L,0,none⟩ u):=⟨rfl,rfl,rfl,by simp,fun i _ a=>Below.heap_setCell _ _ _ _ a⟩
end
end
section
open Go.RowKit Go.Shelf
attribute [local go_sem] Oper.semAt_some
theorem Uh(z:az)(h:z.length<=100000)(w:World):Calls prog 8 #[tx z] w fun e b=>
 e=.returned (.func (.func 121) #[] #[.pointer (some ⟨w.heap.size+1,0,none⟩),.pointer (some ⟨w.heap.size,0,none⟩),.pointer (some ⟨w.heap.size+2,0,none⟩)])/\
 b=((w.alloc (.cells #[tx (Lib.trimSuffix z [10])] 9)).alloc (.cells #[.string ⟨#[10]⟩] 9)).alloc (.cells #[.int .i64 0] 3):=by
 have d:(⟨z.toArray⟩:ByteArray).size=z.length:=by simp[ByteArray.size]
 have f:∀V,Calls prog 24 #[tx z,.string ⟨#[10]⟩] V fun e b=>e=.returned (tx (Lib.trimSuffix z [10]))/\b=V:=fun V=>Any.strings_TrimSuffix Tryz.trimSuffixL ⟨z.toArray⟩ ⟨#[10]⟩ V (by rw[d];omega);have g:=Hw (Lib.trimSuffix z [10]);go_enter Tryz.func8,Tryz.ntmps8
 go_wp2_with (first
  |(go_at_call 24;refine(f _).mono ?_;rintro e a ⟨rfl,c⟩;subst a)
  |(go_at_call 23;refine(g _).mono ?_;rintro e a ⟨rfl,c⟩;subst a))
 go_ret;exact⟨rfl,rfl⟩
theorem tJ:∀l:az,(bL l).length<=l.length+1
 | []=>by simp[bL]
 |c::l=>by
  have a:=tJ l;by_cases h:c=10
  ·subst h;rw[uY];simp only[length_cons];omega
  ·cases e:bL l with
   |nil=>exact absurd e (GA l)
   |cons x t=>rw[nJ l h e];rw[e] at a;simp only[length_cons] at a ⊢;omega
theorem wz(s:az):(Lib.trimSuffix s [10]).length<=s.length:=by
 unfold Lib.trimSuffix;split
 ·rw[List.length_take];omega
 ·exact Nat.le_refl _
def Si(w:World)(CK:Nat->List az->az->(Nat->Prop)->World->Prop):Prop:=
 Calls prog 6 #[.int .i64 32] w fun e w1=>∃kb,e=.returned (.tuple #[wp kb,.nilIface])/\Calls prog 7 #[wp kb] w1 fun e w2=>∃cb F,e=.returned (wp cb)/\CK cb [] [] F w2/\Below w.heap.size w w2
theorem J2{w:World}{d:az}{CK:Nat->List az->az->(Nat->Prop)->World->Prop}(hl:d.length<=2600)(hG:9<=w.heap.size)(H:LD w (Lib.trimSuffix d [10]) CK)(h0:Si w CK):Calls prog 4 #[tx d] w fun e w'=>∃A g F V,e=.returned (tx g)/\CK A (oh d) g F V/\Below w.heap.size w w':=by
 have hL:=Uh d (by omega);have f1:Fence.wide.fn 6:=trivial;have f2:Fence.wide.fn 7:=trivial;have f3:Fence.wide.fn 8:=trivial;have hgt:¬(20000:Int)<(d.length:Int):=by omega
 have h0':Calls prog 6 #[.int .i64 32] w _:=h0;refine(callsIn_wide (n:=4)).1 ?_;refine callsIn_of_wp_marks Tryz.func4 rfl trivial ?_ rfl;simp only[Tryz.ntmps4,List.size_toArray,length_cons,List.length_nil,Nat.reduceAdd,Nat.reduceSub,Array.replicate_succ,Array.replicate_zero,List.push_toArray,List.append_toArray,List.nil_append,List.cons_append];gi_wp2_with (first
  |(gi_at_call 6;refine(callsIn_wide.2 h0').mono ?_;rintro e w1 ⟨kb,rfl,hC⟩)
  |(gi_at_call 7;refine(callsIn_wide.2 hC).mono ?_;rintro e K ⟨A,F,rfl,ck,b2⟩)
  |(gi_at_call 8;refine(callsIn_wide.2 (hL _)).mono ?_;rintro e w3 ⟨rfl,hw3⟩;subst w3))
 obtain⟨z,s⟩:∃z,K.heap.size=z:=⟨_,rfl⟩;obtain⟨f,VF⟩:∃f,Lib.trimSuffix d [10]=f:=⟨_,rfl⟩;have htl:f.length<=2600:=by rw[<-VF];exact Nat.le_trans (wz d) hl
 obtain⟨G,p⟩:∃G,(((((K.alloc (.cells #[wp A] 31)).alloc (.cells #[.pointer none,.slice none 0 0] 36)).alloc (.cells #[tx f] 9)).alloc (.cells #[.string ⟨#[10]⟩] 9)).alloc (.cells #[.int .i64 0] 3))=G:=⟨_,rfl⟩;rw[VF] at H;rw[VF,s];show Code.wpIn _ _ _ _ _ _ (((((K.alloc (.cells #[wp A] 31)).alloc (.cells #[.pointer none,.slice none 0 0] 36)).alloc (.cells #[tx f] 9)).alloc (.cells #[.string ⟨#[10]⟩] 9)).alloc (.cells #[.int .i64 0] 3));rw[p];have M:G.heap.size=z+5:=by rw[<-p];simp[s]
 have bz0:Below z K G:=by
  rw[<-p,<-s]
  repeat first|exact Below.refl _ _|refine Below.alloc ?_ (by first|omega|(simp<;>omega)) _
 have C:∀(V:World) (o:Obj),(V.alloc o).heap[V.heap.size]? = some o:=fun V o=>by show (V.heap.push _)[V.heap.size]? = _;rw[Array.getElem?_push,if_pos rfl]
 have e0:G.heap[z]? = some (.cells #[wp A] 31):=by
  rw[<-p,<-s];rw[heap_alloc _ _ _ (by simp;omega),heap_alloc _ _ _ (by simp;omega),heap_alloc _ _ _ (by simp;omega),heap_alloc _ _ _ (by simp)];exact C _ _
 have e2:G.heap[z+1+1]? = some (.cells #[tx f] 9):=by
  have:=C ((K.alloc (.cells #[wp A] 31)).alloc (.cells #[.pointer none,.slice none 0 0] 36)) (.cells #[tx f] 9);simp only[size_alloc,s] at this;rw[<-p,heap_alloc _ _ _ (by simp[s]),heap_alloc _ _ _ (by simp[s])];exact this
 have e3:G.heap[z+1+1+1]? = some (.cells #[.string { data:=#[10] }] 9):=by
  have:=C (((K.alloc (.cells #[wp A] 31)).alloc (.cells #[.pointer none,.slice none 0 0] 36)).alloc (.cells #[tx f] 9)) (.cells #[.string { data:=#[10] }] 9);simp only[size_alloc,s] at this;rw[<-p,heap_alloc _ _ _ (by simp[s])];exact this
 have e4:G.heap[z+1+1+2]? = some (.cells #[.int .i64 0] 3):=by
  have:=C ((((K.alloc (.cells #[wp A] 31)).alloc (.cells #[.pointer none,.slice none 0 0] 36)).alloc (.cells #[tx f] 9)).alloc (.cells #[.string { data:=#[10] }] 9)) (.cells #[.int .i64 0] 3);simp only[size_alloc,s] at this;rw[<-p];exact this
 have bd0:BD w.heap.size G (z+1) (z+1) []:=by
  have h1:=BD.new (n0:=w.heap.size) (K.alloc (.cells #[wp A] 31)) (by have:=b2.size;simp;omega);simp only[size_alloc,s] at h1;refine h1.kept fun i B=>?_;have:=h1.lt i B;simp only[size_alloc,s] at this;rw[<-p,heap_alloc _ _ _ (by simp[s];omega),heap_alloc _ _ _ (by simp[s];omega),heap_alloc _ _ _ (by simp[s];omega)]
 have hwz:w.heap.size<=z:=by have:=b2.size;omega
 clear p C;refine Gl (D:=z+5) M (by omega) rfl (enters_of Tryz.func121 (by kernel_rfl) rfl) ?_;intro fn j O R v;have s1:O.heap.size=z+7:=by rw[v];simp[M]
 have q:∀i,i<z+5->O.heap[i]? = G.heap[i]? := fun i B=>by
  rw[v,heap_alloc _ _ _ (by simp[M];omega),heap_alloc _ _ _ (by rw[M];exact B)]
 have d5:O.heap[z+5]? = some (.deferred (some [])):=by
  rw[v,heap_alloc _ _ _ (by simp[M]),<-M];exact World.alloc_heap_new _ _
 have d6:O.heap[z+5+1]? = some (.loop (j .ready none)):=by
  rw[v];have:=World.alloc_heap_new (G.alloc (.deferred (some []))) (.loop (j .ready none));rwa[size_alloc,M] at this
 have E:Below z K O:=by rw[v];exact(bz0.alloc (by rw[M];omega) _).alloc (by simp[M];omega) _
 have QI:Below w.heap.size w O:=b2.trans (E.mono hwz);have hF:=H.foot _ _ _ _ _ ck;obtain⟨N,b⟩:∃N:Loop->List (Nat×Obj),N=fun r=>[(z,.cells #[wp A] 31),(z+1+1+1,.cells #[.string { data:=#[10] }] 9),(z+1+1+2,.cells #[.int .i64 0] 3),(z+5,.deferred (some [])),(z+5+1,.loop r)]:=⟨_,rfl⟩;obtain⟨l,J⟩:∃l,l=[z,z+1+1,z+1+1+1,z+1+1+2,z+5,z+5+1]:=⟨_,rfl⟩;have J0:SJ w CK A (z+1) l (N (j .ready none)) [] O [] F (z+1):=by
  refine⟨H.keep _ _ _ _ _ _ (fun _=>False) ck ⟨E.os,E.tape,E.output,by rw[s1];omega,fun i B _=>E.block i (by omega)⟩ (fun i B=>B.elim),bd0.kept (fun i B=>q i (by have:=bd0.lt i B;omega)),by simp,fun i B=>?_,⟨fun h=>by have:=(hF _ h).2;omega,fun h=>by have:=(hF _ h).2;omega⟩,fun y m=>?_,QI⟩
  ·rw[J] at B;simp only[mem_cons,not_mem_nil,or_false] at B;exact⟨fun h=>by have:=(hF _ h).2;omega,by omega,by omega,by omega,by omega⟩
  ·rw[b] at m;simp only[mem_cons,not_mem_nil,or_false] at m;rcases m with rfl|rfl|rfl|rfl|rfl
   ·exact(q _ (by omega)).trans e0
   ·exact(q _ (by omega)).trans e3
   ·exact(q _ (by omega)).trans e4
   ·exact d5
   ·exact d6
 have hfi:∀r,∀y∈N r,y.1∈l:=fun r y m=>by
  rw[b] at m;simp only[mem_cons,not_mem_nil,or_false] at m;rw[J];rcases m with rfl|rfl|rfl|rfl|rfl<;>simp
 refine(XC (z+5+1) (z+1+1) (z+1+1+1) (z+1+1+2) f (by omega) O (SJx w CK A (z+1) l (N (j .ready none))) (fun P W Z=>?_) (fun P W u Z=>?_) ⟨[],F,z+1,J0⟩ ((q _ (by omega)).trans e2) (fun P x t W U Z=>?_)).mono ?_
 ·obtain⟨g,F',bg,h⟩:=Z;exact⟨(fM (h.fx (z+1+1+1,.cells #[.string { data:=#[10] }] 9) (by rw[b];simp))).1,(fM (h.fx (z+1+1+2,.cells #[.int .i64 0] 3) (by rw[b];simp))).1⟩
 ·obtain⟨g,F',bg,h⟩:=Z;exact⟨g,F',bg,h.turn H hG (by rw[J];simp) (JK _ _ _) (fun y m=>.inl ⟨m,by
   rw[b] at m;simp only[mem_cons,not_mem_nil,or_false] at m;rcases m with rfl|rfl|rfl|rfl|rfl<;>simp<;>omega⟩)⟩
 ·obtain⟨g,F',bg,h⟩:=Z;have S:=h.fx (z+5+1,.loop (j .ready none)) (by rw[b];simp);have Y:z+5+1<W.heap.size:=(Array.getElem?_eq_some_iff.1 S).1;have Q:∀(V:World) (r r':Loop),z+5+1<V.heap.size->∀y∈N r',y∈N r/\y.1≠z+5+1\/(V.putObj (z+5+1) (.loop r')).heap[y.1]? = some y.2:=fun V r r' hV y m=>by
   rw[b] at m ⊢;simp only[mem_cons,not_mem_nil,or_false] at m;rcases m with rfl|rfl|rfl|rfl|rfl
   ·exact .inl ⟨by simp,by simp only;omega⟩
   ·exact .inl ⟨by simp,by simp only;omega⟩
   ·exact .inl ⟨by simp,by simp only;omega⟩
   ·exact .inl ⟨by simp,by simp only;omega⟩
   ·exact .inr (World.putObj_heap_same hV)
  have L:z+5+1∈l:=by rw[J];simp
  have hi2:z+1+1∈l:=by rw[J];simp
  have I:=h.turn (fx':=N (j .busy none)) H hG L (wm W (z+5+1) (.loop (j .busy none))) (Q W (j .ready none) (j .busy none) Y);have hpl:P.length<=3000:=by
   have h1:=tJ f;rw[U,length_append] at h1;omega
  have hA:=I.line H hG U hpl (hfi _);have k0:(W.putObj (z+5+1) (.loop (j .busy none))).heap[z]? = some (.cells #[wp A] 31):=I.fx (z,.cells #[wp A] 31) (by rw[b];simp);have n0:=(fM k0).1;have hB2:(W.putObj (z+5+1) (.loop (j .busy none))).heap[z+1+1]? = W.heap[z+1+1]? := World.putObj_heap_other (by omega);have HB2:Aside _:=hB2;have HSW:Aside _:=Q;refine Sl R S rfl ?_;have HFX:Aside _:=b;have HID:Aside _:=J;clear I k0 hB2 Q R v b J;have acM:=fun V=>HSW.out V (j .busy none) (j .ready none);have afU:Aside _:=acM;clear HSW acM;generalize j .busy none=rb at *;generalize j .ready none=rd at *;generalize W.putObj (z+5+1) (.loop (j .busy none))=X at *;gi_wp2_with (first
   |(refine⟨trivial,?_⟩;gi_at_call 10;refine(CallsIn.inRound (z+5+1) (callsIn_wide.2 hA)).mono ?_;rintro e w3 ⟨a,rfl,fx3,hB⟩)
   |(refine⟨trivial,?_⟩;gi_at_call 9;refine(CallsIn.inRound (z+5+1) (callsIn_wide.2 hB)).mono ?_;rintro e w4 ⟨u,rfl,fx4,hC⟩)
   |(refine⟨trivial,?_⟩;gi_at_call 11;refine(CallsIn.inRound (z+5+1) (callsIn_wide.2 hC)).mono ?_;rintro e T ⟨rfl,hS5,hI5⟩))
  obtain⟨F2,bg2,h5⟩:=hS5;have q6:=h5.fx (z+5+1,.loop rb) (by rw[HFX.out];simp);have hl5:z+5+1<T.heap.size:=(Array.getElem?_eq_some_iff.1 q6).1;refine⟨q6,rfl,⟨_,_,_,h5.turn H hG L (wm T (z+5+1) (.loop rd)) (afU.out T hl5)⟩,?_⟩;rw[World.putObj_heap_other (by omega),hI5 _ hi2];exact HB2.out
 ·rintro e W' ⟨hv,g,F',bg,h⟩;have S:=h.fx (z+5+1,.loop (j .ready none)) (by rw[b];simp);have Y:z+5+1<W'.heap.size:=(Array.getElem?_eq_some_iff.1 S).1;have L:z+5+1∈l:=by rw[J];simp
  have hi5:z+5∈l:=by rw[J];simp
  have I:=h.turn (fx':=[(z+5,.deferred (some []))]) H hG L (wm W' (z+5+1) (.loop (j .exhausted none))) (fun y m=>.inl (by
   rw[List.mem_singleton] at m;subst m;exact⟨by rw[b];simp,by simp only;omega⟩))
  refine⟨hv,.inl ⟨S,?_⟩⟩;clear R v S b J;generalize W'.putObj (z+5+1) (.loop (j .exhausted none))=X at *;have hS:=Any.Builder_String_any_k Tryz.stringL Sb w.heap.size (z+1) g X (Lib.IsBuilderF.of I.bd.is) I.vK.size;have d5:=I.fx (z+5,.deferred (some [])) (by simp);gi_wp2_with (refine⟨trivial,?_⟩;gi_at_call 12;refine(callsIn_wide.2 hS).mono ?_;rintro e T ⟨rfl,_,b5,k5⟩)
  have r5:T.heap[z+5]? = some (.deferred (some [])):=k5 _ _ d5 (by simp) (fun c fz h=>by cases h);refine⟨by simp,.inl ⟨_,_,rfl,run_takeDeferred r5,?_⟩⟩;refine⟨tx g,by simp[results,Tryz.results4,go_sem],A,g,F',X,rfl,by unfold oh;rw[VF];exact I.ck,?_⟩;exact(I.vK.trans b5).grown (grownBy_putObj' _ _ _) (by have:=I.vK.size;have:=b5.size;omega) (fun k e=>by cases e;omega)
end
end Go.Proofs.YtippochapiolpaaGreatDoor

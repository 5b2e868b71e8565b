/- Ours. -/
import Derived.Test.YtippochapiolpaaGreatDoorHRefuse
import Derived.Test.YtippochapiolpaaGreatDoorShelfH
set_option maxHeartbeats 8000000
set_option maxRecDepth 100000
namespace Go.Proofs.YtippochapiolpaaGreatDoor
open Go.Proofs.Tryz(prog)
section
open Go.RowKit Go.Shelf
def Vh(w:World)(ad:Option Addr)(L:List (List UInt8)):Prop:=
 L=[]\/∃blk off,ad=some ⟨blk,off,none⟩/\blk<w.heap.size/\∀i (hi:i<L.length),w.cell? ⟨blk,off+i,none⟩=some (tx L[i])
theorem Vh.below{w w':World}{f:Option Addr}{L:List (List UInt8)}(h:Vh w f L)(d:Below w.heap.size w w'):Vh w' f L:=by
 rcases h with h|⟨b,a,e,c,j⟩
 ·exact .inl h
 ·exact .inr ⟨b,a,e,Nat.lt_of_lt_of_le c d.size,fun i g=>by rw[d.cell (p:=⟨b,a+i,none⟩) c];exact j i g⟩
theorem VY(s:ByteArray):tx s.data.toList=.string s:=by
 show Value.string ⟨s.data.toList.toArray⟩=_;rw[Array.toArray_toList]
theorem Vh.row{w:World}{n0 A n c:Nat}{t:TypeId}{L:List ByteArray}(h:w.ownsRow n0 t 1 (.slice (some ⟨A,0,none⟩) n c) n (L.map Value.string)):Vh w (some ⟨A,0,none⟩) (L.map (·.data.toList)):=by
 refine .inr ⟨A,0,rfl,(h.lt A rfl).2,fun i b=>?_⟩;have a:i<L.length:=by simpa using b
 have:=h.cells (g:=A) rfl i (.string L[i]) (by simp[a]);rw[Nat.zero_add,List.getElem_map,VY,<-this];simp[Addr.add_lit]
theorem II(w:World):PredAt prog 28 #[] encR nX w:=fun W r _=>by
 have e:nX r=((r:Int)==32):=by
  unfold nX;by_cases h:r=32
  ·subst h;rfl
  ·have a:¬(r:Int)=32:=by omega
   rw[beq_eq_false_iff_ne.2 h,beq_eq_false_iff_ne.2 a]
 unfold FnGives;rw[e];go_enter Tryz.func28,Tryz.ntmps28
 go_wp2;go_ret;exact⟨rfl,0,rfl⟩
theorem Sr(a:List UInt8)(i:a.length<=100000)(w:World):Calls prog 27 #[tx a,.func (.func 28) #[] #[]] w fun e d=>∃A,e=.returned (.slice (some ⟨A,0,none⟩) (bJ a).length (bJ a).length)/\Vh d (some ⟨A,0,none⟩) (bJ a)/\w.heap.size<=A/\Below w.heap.size w d:=by
 have f:(⟨a.toArray⟩:ByteArray).size=a.length:=by simp[ByteArray.size]
 refine(Any.strings_FieldsFunc Tryz.fieldsL 28 #[] (enters_of Tryz.func28 (by kernel_rfl) rfl) nX ⟨a.toArray⟩ w (by rw[f];omega) (II w) (by kernel_rfl) (by kernel_rfl)).mono ?_;rintro e d ⟨A,rfl,h,b,g⟩;have c:(bJ a).length=(Lib.goFieldsP nX ⟨a.toArray⟩).length:=by unfold bJ;rw[List.length_map]
 rw[c];exact⟨A,rfl,Vh.row b,h,g⟩
def gP(x:List UInt8):Option Int:=match Lib.atoiAll x with
 |.ok v=>if Lib.itoa v=x then some v else none
 |_=>none
structure GL (w:World):Prop where
 pow:Pow w
 er:w.cell? ⟨0,0,none⟩=some iA
 syn:∃te pe,w.cell? ⟨5,0,none⟩=some (.iface te pe)
 rng:∃te pe,w.cell? ⟨6,0,none⟩=some (.iface te pe)
theorem GL.below{w w':World}(h:GL w)(d:Below w.heap.size w w'):GL w':=by
 have k:∀ {a:Addr}{v:Value},w.cell? a=some v->w'.cell? a=some v:=fun {a v} e=>(d.cell (p:=a) (World.block_lt_of_cell? w _ e)).trans e;obtain⟨p,e,⟨f,g,i⟩,⟨b,c,j⟩⟩:=h;exact⟨p.below d,k e,⟨f,g,k i⟩,⟨b,c,k j⟩⟩
theorem IC(w:World)(t:TypeId)(s:ByteArray):Below w.heap.size w (Lib.bytesWorld w t s):=
 ⟨rfl,rfl,rfl,by rw[Lib.bytesWorld_size];omega,fun k a=>Lib.bytesWorld_at_old w _ _ k a⟩
theorem Ym(x:List UInt8)(d:x.length<=100000)(w:World){v:Int}(h:Lib.atoiAll x=.ok v):Calls prog 75 #[tx x] w fun e a=>e=.returned (.tuple #[.int .i64 v,.nilIface])/\Below w.heap.size w a:=by
 have c:(⟨x.toArray⟩:ByteArray).size=x.length:=by simp[ByteArray.size]
 refine(Any.strconv_Atoi_ok Tryz.atoiCL ⟨x.toArray⟩ (by rw[c];omega) v h w).mono ?_;rintro e a ⟨rfl,b⟩;refine⟨rfl,?_⟩;rcases b with rfl|⟨t,rfl⟩
 ·exact Below.refl _ _
 ·exact IC _ _ _
theorem U7(x:List UInt8)(k:x.length<=100000)(w:World)(g:GL w)(j:∀v,Lib.atoiAll x≠.ok v):Calls prog 75 #[tx x] w fun e a=>∃z b c,e=.returned (.tuple #[.int .i64 z,.iface b c])/\Below w.heap.size w a:=by
 have i:(⟨x.toArray⟩:ByteArray).size=x.length:=by simp[ByteArray.size]
 cases h:Lib.atoiAll x with
 |ok v=>exact absurd h (j v)
 | «syntax» =>
  obtain⟨b,c,d⟩:=g.syn;refine(Any.strconv_Atoi_syntax Tryz.atoiCL ⟨x.toArray⟩ (by rw[i];omega) h _ w d (.inr ⟨_,_,rfl⟩)).mono ?_;rintro e a ⟨N,rfl,_,_,f⟩;exact⟨_,_,_,rfl,f⟩
 |range=>
  obtain⟨b,c,d⟩:=g.rng;refine(Any.strconv_Atoi_range Tryz.atoiCL ⟨x.toArray⟩ (by rw[i];omega) h _ w d (.inr ⟨_,_,rfl⟩)).mono ?_;rintro e a ⟨N,rfl,_,_,f⟩;exact⟨_,_,_,rfl,f⟩
theorem Gx{x:List UInt8}{n:Int}(h:gP x=some n):dF n:=by
 unfold gP at h;cases e:Lib.atoiAll x with
 |ok v=>
  rw[e] at h;simp only at h;split at h
  ·cases h;exact Lib.atoiAll_bounds e
  ·cases h
 | «syntax» => rw[e] at h;cases h
 |range=>rw[e] at h;cases h
def ZR(x:List UInt8)(w:World)(e:Ending)(w':World):Prop:=∃z,e=.returned (.tuple #[.int .i64 z,.bool (gP x).isSome])/\(∀n,gP x=some n->z=n)/\Below w.heap.size w w'
theorem wJ(x:List UInt8)(m:x.length<=100000)(w:World)(g:GL w):Calls prog 29 #[tx x] w (ZR x w):=by
 by_cases c:∀v,Lib.atoiAll x≠.ok v
 ·have k:=U7 x m w g c;have a:gP x=none:=by
   unfold gP;cases e:Lib.atoiAll x with
   |ok v=>exact absurd e (c v)
   | «syntax» => rfl
   |range=>rfl
  unfold ZR;rw[a];clear c g a;go_enter Tryz.func29,Tryz.ntmps29
  go_wp2_with (go_at_call 75;refine k.mono ?_;rintro e l ⟨z,y,A,rfl,d⟩)
  go_ret2;exact⟨_,rfl,(fun n h=>by cases h),d⟩
 ·obtain⟨v,f⟩:∃v,Lib.atoiAll x=.ok v:=Classical.not_forall_not.1 c;have i:dF v:=Lib.atoiAll_bounds f;have k:=Ym x m w f;have s:∀V,Below w.heap.size w V->Calls prog 13 #[.int .i64 v] V fun e p=>e=.returned (tx (Lib.itoa v))/\Below V.heap.size V p:=fun V b=>uZ v i.1 i.2 V (g.pow.below b);have a:gP x=if Lib.itoa v=x then some v else none:=by unfold gP;rw[f]
  have r:(Lib.itoa v==x)=(gP x).isSome:=by
   rw[a];by_cases e:Lib.itoa v=x
   ·rw[if_pos e,e];simp
   ·rw[if_neg e];simpa using e
  have q:∀n,gP x=some n->v=n:=fun n h=>by
   rw[a] at h;split at h
   ·exact Option.some.inj h
   ·cases h
  unfold ZR;clear c g a f i;generalize gP x=o at *;go_enter Tryz.func29,Tryz.ntmps29
  go_wp2_with (first
   |(go_at_call 75;refine k.mono ?_;rintro e l ⟨rfl,d⟩;have j:=s l d)
   |(go_at_call 13;refine j.mono ?_;rintro e u ⟨rfl,t⟩))
  go_ret2;exact⟨_,rfl,q,d.trans (t.mono d.size)⟩
end
section
open Go.RowKit
abbrev az:=List UInt8
def fH:az->List az->List Int->List az->Bool->Option (List Int×List az×Bool)
 | [],[],ns,ts,on=>some (ns,ts,on)
 |f::fs,x::xs,ns,ts,on=>
  if f=78 then match gP x with
   |some n=>fH fs xs (ns++[n]) ts on
   |none=>none
  else if f=89 then if x=[121] then fH fs xs ns ts true else if x=[110] then fH fs xs ns ts false else none
  else fH fs xs ns (ts++[x]) on
 |_,_,_,_,_=>none
theorem Ao:∀(b:az) (xs:List az) (ns:List Int) (ts:List az) (on:Bool),b.length≠xs.length->fH b xs ns ts on=none
 | [],[],_,_,_,h=>absurd rfl h
 | [],_::_,_,_,_,_=>by simp[fH]
 |_::_,[],_,_,_,_=>by simp[fH]
 |f::b,x::xs,ns,ts,on,h=>by
  have a:=fun ns ts on=>Ao b xs ns ts on (by simpa using h);simp only[fH];split
  ·split
   ·exact a _ _ _
   ·rfl
  ·split
   ·split
    ·exact a _ _ _
    ·split
     ·exact a _ _ _
     ·rfl
   ·exact a _ _ _
def gJ(fs:az)(xs:List az):Option (List Int×List az×Bool):=fH fs xs [] [] false
def BO(w:World)(v:Value)(L:List Int):Prop:=∃ad cap,v=.slice ad L.length cap/\pV w ad L
def TxV(w:World)(v:Value)(L:List az):Prop:=∃ad cap,v=.slice ad L.length cap/\Vh w ad L
theorem BO.row{w:World}{n0:Nat}{t:TypeId}{v:Value}{L:List Int}(h:w.ownsRow n0 t 1 v L.length (L.map (Value.int .i64))):BO w v L:=by
 rcases h.2 with⟨rfl,b⟩|⟨g,a,e,rfl,_,d,_⟩
 ·exact⟨none,0,by rw[b],.inl (List.eq_nil_of_length_eq_zero b)⟩
 ·refine⟨_,a,rfl,.inr ⟨g,0,rfl,(Array.getElem?_eq_some_iff.1 d).1,fun i c=>?_⟩⟩;have:=h.cells (g:=g) rfl i (.int .i64 L[i]) (by simp[c]);rw[Nat.zero_add,<-this];simp[Addr.add_lit]
theorem TxV.row{w:World}{n0:Nat}{t:TypeId}{v:Value}{L:List az}(h:w.ownsRow n0 t 1 v L.length (L.map fun x=>tx x)):TxV w v L:=by
 rcases h.2 with⟨rfl,b⟩|⟨g,a,e,rfl,_,d,_⟩
 ·exact⟨none,0,by rw[b],.inl (List.eq_nil_of_length_eq_zero b)⟩
 ·refine⟨_,a,rfl,.inr ⟨g,0,rfl,(Array.getElem?_eq_some_iff.1 d).1,fun i c=>?_⟩⟩;have:=h.cells (g:=g) rfl i (tx L[i]) (by simp[c]);rw[Nat.zero_add,<-this];simp[Addr.add_lit]
theorem M8{w:World}{n0 n:Nat}{v u z:Value}{xs:List Value}{t e:TypeId}{i:TypeInfo}{bytes:Nat}(A:prog.underlying t=some (.slice e))(B:prog.info? e=some i)(m:i.zero=some z)(l:i.size=1)(k:i.bytes=bytes)(j:z.cells.size=1)(C:bytes<=16)
 (g:w.ownsRow n0 e 1 v n xs) (y:u.oneCell'=true) (E:n0<=w.heap.size) (F:n<=10000) :
 ∃d a h,(∀r,(Builtin.append_ #[t,t] r #[v,.slice (some ⟨w.heap.size,0,none⟩) 1 1]).run prog (w.alloc (.cells #[u] e))=.ok (.slice d (n+1) a) h)/\h.ownsRow n0 e 1 (.slice d (n+1) a) (n+1) (xs++[u])/\(w.alloc (.cells #[u] e)).grownBy h v.ownBlock:=by
 obtain⟨q,p,f,b,c,_⟩:=run_append_own_at (P:=prog) (w.alloc (.cells #[u] e)) n0 t t e i z 1 bytes A B m l k j (by decide) v n xs (g.alloc _) ⟨w.heap.size,0,none⟩ 1 1 [u] rfl (Dh _ _ _) (by intro x s;rw[List.mem_singleton.1 s];exact y) (by unfold maxLen;omega) (by have:=Nat.mul_le_mul (show n+1<=10001 by omega) C;omega) (by simp;omega);obtain⟨d,a,rfl⟩:∃d a,q=.slice d (n+1) a:=by
  rcases b.2 with⟨o,G⟩|⟨x,a,D,o,_⟩
  ·omega
  ·exact⟨_,_,o⟩
 exact⟨d,a,p,fun _=>f,b,c⟩
theorem Af{w:World}{n0 n m:Nat}{v u:Value}{xs ys:List Value}{e f:TypeId}(h:w.ownsRow n0 e 1 v n xs)(k:w.ownsRow n0 f 1 u m ys)(c:e≠f):u.ownBlock=none\/v.ownBlock≠u.ownBlock:=by
 rcases h.2 with⟨rfl,_⟩|⟨g,p,o,rfl,_,j,_⟩
 ·rcases k.2 with⟨rfl,_⟩|⟨l,b,d,rfl,_,a,_⟩
  ·exact .inl rfl
  ·exact .inr (by simp[Value.ownBlock])
 ·rcases k.2 with⟨rfl,_⟩|⟨l,b,d,rfl,_,a,_⟩
  ·exact .inl rfl
  ·refine .inr fun i=>?_;simp only[Value.ownBlock,Option.some.injEq] at i;subst i;rw[j] at a;simp only[Option.some.injEq,Obj.cells.injEq] at a;exact c a.2.1
structure PB (w wr:World) (B:Nat) (word:az) (ns:List Int) (ts:List az) (nv tv:Value) (on:Bool):Prop where
 box:wr.heap[B+1]? = some (.cells #[.int .i64 0,tx word,nv,tv,.bool on] 86)
 out:∃a b c d e,wr.heap[B]? = some (.cells #[a,b,c,d,e] 86)
 ns:wr.ownsRow (B+2) 3 1 nv ns.length (ns.map (Value.int .i64))
 ts:wr.ownsRow (B+2) 9 1 tv ts.length (ts.map fun x=>tx x)
 vK:Below B w wr
section
variable {w wr w':World}{B:Nat}{word:az}{ns:List Int}{ts:List az}{nv tv:Value}{on:Bool}
theorem rC{w w':World}{n0 n:Nat}{v:Value}{xs:List Value}{e:TypeId}(h:w.ownsRow n0 e 1 v n xs)(b:Below w.heap.size w w'):w'.ownsRow n0 e 1 v n xs:=
 h.kept (row:=some w.heap.size) ⟨b.os,b.tape,b.output,b.size,fun i a _=>b.block i a⟩ (by
  rcases h9:v.ownBlock with _|x
  ·exact .inl rfl
  ·exact .inr fun e=>by have:=(h.lt _ h9).2;simp at e;omega)
theorem PB.below(h:PB w wr B word ns ts nv tv on)(b:Below wr.heap.size wr w'):PB w w' B word ns ts nv tv on:=by
 obtain⟨f,⟨a,n,c,d,e,m⟩,l,j,g⟩:=h;have k:∀ {i:Nat}{o:Obj},wr.heap[i]? = some o->w'.heap[i]? = some o:=fun {i o} e=>(b.block i (Array.getElem?_eq_some_iff.1 e).1).trans e;exact⟨k f,⟨a,n,c,d,e,k m⟩,rC l b,rC j b,g.trans (b.mono (by have:=(Array.getElem?_eq_some_iff.1 f).1;omega))⟩
theorem Ed{V:World}{b i:Nat}{a:Array Value}{t:TypeId}{v:Value}(h:V.heap[b]? = some (.cells a t)):(V.setCell ⟨b,i,none⟩ v).heap[b]? = some (.cells (a.setIfInBounds i v) t):=by
 simp[World.setCell,Array.getElem?_modify,h]
theorem nu{V:World}{n0 n b i:Nat}{x v:Value}{xs:List Value}{e:TypeId}(h:V.ownsRow n0 e 1 v n xs)(c:b<n0):(V.setCell ⟨b,i,none⟩ x).ownsRow n0 e 1 v n xs:=
 h.kept (row:=some b) ⟨rfl,rfl,rfl,by simp[World.setCell],fun k _ a=>Below.heap_setCell _ _ _ _ (fun e=>a (by simp[e]))⟩ (by
  rcases h9:v.ownBlock with _|y
  ·exact .inl rfl
  ·exact .inr fun e=>by have:=(h.lt _ h9).1;simp at e;omega)
theorem PB.addN(h:PB w wr B word ns ts nv tv on)(z:Int)(O:ns.length<=1000):∃j f g,(∀A,(Builtin.append_ #[46,46] A #[nv,.slice (some ⟨wr.heap.size,0,none⟩) 1 1]).run prog (wr.alloc (.cells #[.int .i64 z] 3))=.ok (.slice j (ns.length+1) f) g)/\g.cell? ⟨B+1,2,none⟩=some nv/\g.frozen? ⟨B+1,2,none⟩=false/\PB w (g.setCell ⟨B+1,2,none⟩ (.slice j (ns.length+1) f)) B word (ns++[z]) ts (.slice j (ns.length+1) f) tv on:=by
 obtain⟨N,H,p,n,m⟩:=info_parts (P:=prog) (e:=3) (z:=.int .i64 0) (size:=1) (bytes:=8) (by kernel_rfl);have r:=Af h.ns h.ts (by decide);obtain⟨y,⟨a,M,c,d,e,K⟩,t,J,I⟩:=h;have D:B+1<wr.heap.size:=(Array.getElem?_eq_some_iff.1 y).1;obtain⟨j,f,g,E,C,q⟩:=M8 (u:=.int .i64 z) Tryz.underlying46 H p n m rfl (by decide) t rfl (by omega) (by omega);have v:∀ {i:Nat}{o:Obj},i<B+2->wr.heap[i]? = some o->g.heap[i]? = some o:=fun {i o} G e=>by
  rw[q.block i (by simp;have:=(Array.getElem?_eq_some_iff.1 e).1;omega) (fun L=>by have:=(t.lt i L.symm).1;omega)];exact(Below.heap_alloc _ _ _ (Array.getElem?_eq_some_iff.1 e).1).trans e
 have l:=v (by omega) y;refine⟨j,f,g,E,by rw[Lib.cell_of_heap l];rfl,Lib.frozen_of_heap l 2,Ed l,⟨a,M,c,d,e,(Below.heap_setCell _ _ _ _ (by show B≠B+1;omega)).trans (v (by omega) K)⟩,?_,nu ((J.alloc _).kept q (by rcases r with s|s;exact .inl s;exact .inr fun e=>s e.symm)) (by omega),?_⟩
 ·have:=nu (b:=B+1) (i:=2) (x:=.slice j (ns.length+1) f) C (by omega);simpa using this
 ·have:=I.alloc (by omega) (.cells #[.int .i64 z] 3);exact(this.grown q (by simp;omega) (fun k F=>by have:=(t.lt k F).1;omega)).setCell (by show B<=B+1;omega) _
theorem PB.gq(h:PB w wr B word ns ts nv tv on)(z:az)(O:ts.length<=1000):∃j f g,(∀A,(Builtin.append_ #[75,75] A #[tv,.slice (some ⟨wr.heap.size,0,none⟩) 1 1]).run prog (wr.alloc (.cells #[tx z] 9))=.ok (.slice j (ts.length+1) f) g)/\g.cell? ⟨B+1,3,none⟩=some tv/\g.frozen? ⟨B+1,3,none⟩=false/\PB w (g.setCell ⟨B+1,3,none⟩ (.slice j (ts.length+1) f)) B word ns (ts++[z]) nv (.slice j (ts.length+1) f) on:=by
 obtain⟨N,H,p,n,m⟩:=info_parts (P:=prog) (e:=9) (z:=.string ⟨#[]⟩) (size:=1) (bytes:=16) (by kernel_rfl);have r:=Af h.ts h.ns (by decide);obtain⟨y,⟨a,M,c,d,e,K⟩,J,t,I⟩:=h;have D:B+1<wr.heap.size:=(Array.getElem?_eq_some_iff.1 y).1;obtain⟨j,f,g,E,C,q⟩:=M8 (u:=tx z) Tryz.underlying75 H p n m rfl (by decide) t rfl (by omega) (by omega);have v:∀ {i:Nat}{o:Obj},i<B+2->wr.heap[i]? = some o->g.heap[i]? = some o:=fun {i o} G e=>by
  rw[q.block i (by simp;have:=(Array.getElem?_eq_some_iff.1 e).1;omega) (fun L=>by have:=(t.lt i L.symm).1;omega)];exact(Below.heap_alloc _ _ _ (Array.getElem?_eq_some_iff.1 e).1).trans e
 have l:=v (by omega) y;refine⟨j,f,g,E,by rw[Lib.cell_of_heap l];rfl,Lib.frozen_of_heap l 3,Ed l,⟨a,M,c,d,e,(Below.heap_setCell _ _ _ _ (by show B≠B+1;omega)).trans (v (by omega) K)⟩,nu ((J.alloc _).kept q (by rcases r with s|s;exact .inl s;exact .inr fun e=>s e.symm)) (by omega),?_,?_⟩
 ·have:=nu (b:=B+1) (i:=3) (x:=.slice j (ts.length+1) f) C (by omega);rw[List.length_append,List.map_append];exact this
 ·have:=I.alloc (by omega) (.cells #[tx z] 9);exact(this.grown q (by simp;omega) (fun k F=>by have:=(t.lt k F).1;omega)).setCell (by show B<=B+1;omega) _
theorem PB.YL(h:PB w wr B word ns ts nv tv on)(c:Bool):PB w (wr.setCell ⟨B+1,4,none⟩ (.bool c)) B word ns ts nv tv c:=by
 obtain⟨j,⟨a,l,k,d,e,i⟩,g,f,b⟩:=h;exact⟨Ed j,⟨a,l,k,d,e,(Below.heap_setCell _ _ _ _ (by show B≠B+1;omega)).trans i⟩,nu g (by omega),nu f (by omega),b.setCell (by show B<=B+1;omega) _⟩
theorem PB.cell(h:PB w wr B word ns ts nv tv on):wr.cell? ⟨B+1,2,none⟩=some nv/\wr.cell? ⟨B+1,3,none⟩=some tv/\wr.cell? ⟨B+1,4,none⟩=some (.bool on)/\wr.frozen? ⟨B+1,4,none⟩=false/\B+1<wr.heap.size:=
 ⟨by rw[Lib.cell_of_heap h.box];rfl,by rw[Lib.cell_of_heap h.box];rfl,by rw[Lib.cell_of_heap h.box];rfl,Lib.frozen_of_heap h.box 4,(Array.getElem?_eq_some_iff.1 h.box).1⟩
end
def sU(w:World)(B:Nat)(word form:az)(ws:List az)(e:Ending)(w':World):Prop:=
 Below B w w'/\match gJ form ws with
  |some (ns,ts,on)=>∃nv tv,e=.returned (gH 0 word nv tv on)/\w'.ownsRow B 3 1 nv ns.length (ns.map (Value.int .i64))/\w'.ownsRow B 9 1 tv ts.length (ts.map fun x=>tx x)
  |none=>e=thrown (eF 3)
theorem uU{w:World}{n0 c n:Nat}{v:Value}{xs:List Value}{e:TypeId}(h:w.ownsRow n0 e 1 v n xs)(f:c<=n0):w.ownsRow c e 1 v n xs:=by
 refine⟨h.1,?_⟩;rcases h.2 with d|⟨g,b,a,e,i,r⟩
 ·exact .inl d
 ·exact .inr ⟨g,b,a,e,by omega,r⟩
theorem sU.no{w w':World}{B:Nat}{c a:az}{d:List az}(b:Below B w w')(h:gJ a d=none):sU w B c a d (thrown (eF 3)) w':=⟨b,by rw[h]⟩
theorem sU.yes{w w':World}{B:Nat}{a c:az}{f:List az}{ns:List Int}{ts:List az}{on:Bool}{e d:Value}(b:Below B w w')(h:gJ c f=some (ns,ts,on))(i:w'.ownsRow (B+2) 3 1 e ns.length (ns.map (Value.int .i64)))(g:w'.ownsRow (B+2) 9 1 d ts.length (ts.map fun x=>tx x)):sU w B a c f (.returned (gH 0 a e d on)) w':=⟨b,by rw[h];exact⟨e,d,rfl,uU i (by omega),uU g (by omega)⟩⟩
theorem OP{a:az}{b:List az}{i:Nat}(d:i<a.length)(c:i<b.length)(ns:List Int)(ts:List az)(on:Bool):fH (a.drop i) (b.drop i) ns ts on=if a[i]=78 then (match gP b[i] with|some n=>fH (a.drop (i+1)) (b.drop (i+1)) (ns++[n]) ts on|none=>none) else if a[i]=89 then (if b[i]=[121] then fH (a.drop (i+1)) (b.drop (i+1)) ns ts true else if b[i]=[110] then fH (a.drop (i+1)) (b.drop (i+1)) ns ts false else none) else fH (a.drop (i+1)) (b.drop (i+1)) ns (ts++[b[i]]) on:=by
 rw[List.drop_eq_getElem_cons d,List.drop_eq_getElem_cons c];rfl
theorem YI{c:UInt8}{n:Nat}(a:n<256)(h:¬c.toNat=n):¬c=n.toUInt8:=fun e=>h (by rw[e];simp;omega)
theorem Gr(w:World)(g:GL w)(d a:az)(l:List az)(ad:Option Addr)(cap:Nat)(hA:Vh w ad (a::l))(hf:d.length<=100)(hc:l.length<cap)(hl:∀x∈l,x.length<=100000):Calls prog 32 #[tx d,.slice ad (a::l).length cap] w (sU w w.heap.size a d l):=by
 rcases hA with h9|⟨k,j,rfl,hbl,I⟩
 ·cases h9
 have c0:w.cell? ⟨k,j,none⟩=some (tx a):=I 0 (by simp);obtain⟨B,hB⟩:∃B,w.heap.size=B:=⟨_,rfl⟩;rw[hB];have HG:Aside (∀V,Below B w V->GL V):=fun V b=>g.below (by rw[hB];exact b);have HC:Aside (∀V,Below B w V->∀i (hi:i<l.length),V.cell? ⟨k,j+1+i,none⟩=some (tx l[i])):=fun V b i hi=>by
  rw[b.cell (p:=⟨k,j+1+i,none⟩) (by show k<B;omega)];have:=I (i+1) (by simp;omega);rw[show j+1+i=j+(i+1) by omega,this];rfl
 have HL:Aside (∀x∈l,x.length<=100000):=hl;clear hl g I;go_enter Tryz.func32,Tryz.ntmps32
 have c1:∀o,(w.alloc o).cell? ⟨k,j,none⟩=some (tx a):=fun o=>by rw[World.cell?_alloc_lt _ _ ⟨k,j,none⟩ hbl];exact c0
 go_upto_region 3 with fail
 have P0:PB w ((w.alloc (.cells #[.int .i64 0,.string { data:=#[] },.slice none 0 0,.slice none 0 0,.bool false] 86)).alloc (.cells #[.int .i64 0,tx a,.slice none 0 0,.slice none 0 0,.bool false] 86)) B a [] [] (.slice none 0 0) (.slice none 0 0) false:=by
  rw[<-hB];refine⟨?_,⟨.int .i64 0,.string { data:=#[] },.slice none 0 0,.slice none 0 0,.bool false,?_⟩,World.ownsRow_nil _ _ _ _,World.ownsRow_nil _ _ _ _,((Below.refl _ _).alloc (Nat.le_refl _) _).alloc (by simp) _⟩
  ·show ((w.heap.push _).push _)[w.heap.size+1]? = _;rw[Array.getElem?_push,if_pos (by simp)]
  ·show ((w.heap.push _).push _)[w.heap.size]? = _;rw[Array.getElem?_push,if_neg (by simp),Array.getElem?_push,if_pos rfl]
 generalize (w.alloc (.cells #[.int .i64 0,.string { data:=#[] },.slice none 0 0,.slice none 0 0,.bool false] 86)).alloc (.cells #[.int .i64 0,tx a,.slice none 0 0,.slice none 0 0,.bool false] 86)=wA at *;have HA:Aside (0<l.length->(if cap=1 then (some ⟨k,j,none⟩:Option Addr) else some ⟨k,j+1,none⟩)=some ⟨k,j+1,none⟩):=fun h=>if_neg (by omega);generalize (if cap=1 then (some ⟨k,j,none⟩:Option Addr) else some ⟨k,j+1,none⟩)=ad2 at *;obtain⟨U,u⟩:∃c,cap-1=c:=⟨_,rfl⟩;have hc2:l.length<=U:=by omega
 rw[u];clear u hc c0 c1;by_cases t:d.length=l.length
 ·have h5:((l.length:Int) != (d.length:Int))=false:=by simp[t]
  go_wp2_with fail
  go_loopg [6,24] l.length (fun mm s6 s24 wr=>∃(i:Nat) (r:List Int) (q:List az) (H:Bool) (nv tv:Value),i+mm=l.length/\s24=.int .i64 (i:Int)/\s6=.bool true/\PB w wr B a r q nv tv H/\r.length<=i/\q.length<=i/\Aside (gJ d l=fH (d.drop i) (l.drop i) r q H))
  case atStart=>exact⟨0,[],[],false,_,_,by omega,rfl,rfl,P0,by simp,by simp,show _=_ by rfl⟩
  case round=>
   obtain⟨i,r,q,H,nv,tv,hi,rfl,rfl,P,hnl,htl,HS⟩:=hrel;by_cases hlt:(i:Int)<(l.length:Int)
   ·have Y:i<l.length:=by omega
    obtain rfl:=HA.out (by omega);have T:=HC.out wr P.vK i Y;have HT:Aside _:=HS.out.trans (OP (by omega) Y r q H);have HX:=HL.out l[i] (List.getElem_mem Y);have hif:(i:Int)<(d.length:Int):=by omega
    clear HS;generalize l[i]=x at *;go_upto_region 11 with fail
    have G:∀h,({ data:=d.toArray }:ByteArray)[i]'h=d[i]:=fun _=>rfl;rw[G];clear G;generalize d[i]=f at *;obtain⟨O,N,M,L,K⟩:=P.cell;by_cases J:f.toNat=78
    ·have W:f=78:=UInt8.toNat_inj.1 J;have m:Aside _:=HT.out.trans (if_pos W);clear HT W;generalize f.toNat=y at *;subst y;have hN:=wJ x HX wr (HG.out wr P.vK);go_upto_region 14 with (go_at_call 29;refine hN.mono ?_;rintro e w1 ⟨z,rfl,hz,b1⟩)
     have HZ:Aside _:=hz;clear hz hN O N M L K T;have P1:=P.below b1;clear P b1;obtain⟨O,N,M,L,K⟩:=P1.cell;obtain⟨ao,ZP,Q,R,k0,k1,E⟩:=P1.addN z (by omega);go_upto_region 17 with (at_builtin;refine gZ rfl _ _ 46 46 rfl _ _ _ Q rfl rfl R ?_)
     generalize Q.setCell ⟨B+1,2,none⟩ (.slice ao (r.length+1) ZP)=w3 at *;clear O N M L K k0 k1 R P1;cases Je:gP x with
     |none=>
      go_wp2_with fail
      exact⟨rfl,.no E.vK (by rw[m.out,Je])⟩
     |some n=>
      have hzn:=HZ.out n Je;subst hzn;go_wp2_with fail
      go_roundg (gk-1)
      case measure=>omega
      case rel=>exact⟨i+1,_,_,_,_,_,by omega,by go_num,rfl,E,by simp;omega,by omega,(by show _=_;rw[m.out,Je])⟩
    ·have F:Aside _:=HT.out.trans (if_neg (YI (by decide) J));by_cases S:f.toNat=89
     ·have X:f=89:=UInt8.toNat_inj.1 S;have m:Aside _:=F.out.trans (if_pos X);clear HT F X J;generalize f.toNat=y at *;subst y;by_cases hy:x=[121]
      ·subst hy;have E:=P.YL true;go_upto_region 17 with fail
       generalize wr.setCell ⟨B+1,4,none⟩ (.bool true)=w3 at *;clear O N M L K P T;go_wp2_with fail
       go_roundg (gk-1)
       case measure=>omega
       case rel=>exact⟨i+1,_,_,_,_,_,by omega,by go_num,rfl,E,by omega,by omega,(by show _=_;rw[m.out,if_pos trivial])⟩
      ·have E:=P.YL false;have hy2:(x==[121])=false:=by simpa using hy
       by_cases hn:x=[110]
       ·subst hn;go_upto_region 17 with fail
        generalize wr.setCell ⟨B+1,4,none⟩ (.bool false)=w3 at *;clear O N M L K P T;go_wp2_with fail
        go_roundg (gk-1)
        case measure=>omega
        case rel=>exact⟨i+1,_,_,_,_,_,by omega,by go_num,rfl,E,by omega,by omega,(by show _=_;rw[m.out,if_neg hy,if_pos trivial])⟩
       ·have hn2:(x==[110])=false:=by simpa using hn
        go_upto_region 17 with fail
        generalize wr.setCell ⟨B+1,4,none⟩ (.bool false)=w3 at *;clear O N M L K P T;go_wp2_with fail
        exact⟨rfl,.no E.vK (by rw[m.out,if_neg hy,if_neg hn])⟩
     ·have m:Aside _:=F.out.trans (if_neg (YI (by decide) S));clear HT F;generalize f.toNat=y at *;obtain⟨ao,ZP,Q,R,k0,k1,E⟩:=P.gq x (by omega);go_upto_region 17 with (at_builtin;refine gZ rfl _ _ 75 75 rfl _ _ _ Q rfl rfl R ?_)
      generalize Q.setCell ⟨B+1,3,none⟩ (.slice ao (q.length+1) ZP)=w3 at *;clear O N M L K k0 k1 R P T;go_wp2_with fail
      go_roundg (gk-1)
      case measure=>omega
      case rel=>exact⟨i+1,_,_,_,_,_,by omega,by go_num,rfl,E,by omega,by simp;omega,(by show _=_;rw[m.out])⟩
   ·have Y:i=l.length:=by omega
    obtain⟨C,Nn,rfl,_⟩:=BO.row P.ns;obtain⟨D,Z,rfl,_⟩:=TxV.row P.ts;have A:=P.box;obtain⟨o0,o1,o2,o3,o4,s⟩:=P.out;have a0:wr.cell? ⟨B+1,0,none⟩=some (.int .i64 0):=by rw[Lib.cell_of_heap A];rfl
    have a1:wr.cell? ⟨B+1,1,none⟩=some (tx a):=by rw[Lib.cell_of_heap A];rfl
    have a2:wr.cell? ⟨B+1,2,none⟩=some (.slice C r.length Nn):=by rw[Lib.cell_of_heap A];rfl
    have a3:wr.cell? ⟨B+1,3,none⟩=some (.slice D q.length Z):=by rw[Lib.cell_of_heap A];rfl
    have a4:wr.cell? ⟨B+1,4,none⟩=some (.bool H):=by rw[Lib.cell_of_heap A];rfl
    have b0:wr.cell? ⟨B,0,none⟩=some o0:=by rw[Lib.cell_of_heap s];rfl
    have b1:wr.cell? ⟨B,1,none⟩=some o1:=by rw[Lib.cell_of_heap s];rfl
    have b2:wr.cell? ⟨B,2,none⟩=some o2:=by rw[Lib.cell_of_heap s];rfl
    have b3:wr.cell? ⟨B,3,none⟩=some o3:=by rw[Lib.cell_of_heap s];rfl
    have b4:wr.cell? ⟨B,4,none⟩=some o4:=by rw[Lib.cell_of_heap s];rfl
    have f0:∀i,wr.frozen? ⟨B,i,none⟩=false:=fun i=>Lib.frozen_of_heap s i;have HR:Aside (∀(i:Nat) (v:Value) (V:World),(V.ownsRow (B+2) 3 1 (.slice C r.length Nn) r.length (r.map (Value.int .i64))/\V.ownsRow (B+2) 9 1 (.slice D q.length Z) q.length (q.map fun x=>tx x)/\Below B w V)->((V.setCell ⟨B,i,none⟩ v).ownsRow (B+2) 3 1 (.slice C r.length Nn) r.length (r.map (Value.int .i64))/\(V.setCell ⟨B,i,none⟩ v).ownsRow (B+2) 9 1 (.slice D q.length Z) q.length (q.map fun x=>tx x)/\Below B w (V.setCell ⟨B,i,none⟩ v))):=fun i v V h=>⟨nu h.1 (by omega),nu h.2.1 (by omega),h.2.2.setCell (Nat.le_refl B) _⟩;go_wp2_with fail
    refine bodyPost_ret (v:=gH 0 a (.slice C r.length Nn) (.slice D q.length Z) H) (by simp[results,Tryz.results32,go_sem,b0,b1,b2,b3,b4]) rfl ?_;have R9:=HR.out 4 (.bool H) _ (HR.out 3 (.slice D q.length Z) _ (HR.out 2 (.slice C r.length Nn) _ (HR.out 1 (tx a) _ (HR.out 0 (.int .i64 0) _ ⟨P.ns,P.ts,P.vK⟩))));exact .yes R9.2.2 (by rw[HS.out,Y,List.drop_length,<-t,List.drop_length];rfl) R9.1 R9.2.1
 ·have h4:((l.length:Int) != (d.length:Int))=true:=by simp;omega
  go_wp2_with fail
  exact⟨rfl,.no P0.vK (Ao _ _ _ _ _ t)⟩
end
end Go.Proofs.YtippochapiolpaaGreatDoor

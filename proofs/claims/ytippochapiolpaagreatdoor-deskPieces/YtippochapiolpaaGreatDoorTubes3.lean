/- Ours. -/
import Derived.ProofKit
import Derived.Test.YtippochapiolpaaGreatDoorRows
import Derived.WalkLawsBesides
import Derived.BigQuiet
set_option maxHeartbeats 2000000
namespace Go.Proofs.YtippochapiolpaaGreatDoor
open Go.Proofs.Tryz(func255 func272 func309 func329 func340 ntmps255 ntmps272 ntmps309 ntmps329 ntmps340 prog sizeOf5 underlying34)
open Go.World(cell?_of_block cell?_setCell_other cell?_setCell_same frozen?_setCell frozen?_setCells)
open List(length_append length_take replicate take_of_length_le)
open Go.RowKit
abbrev tp(b:Nat):Value:=.pointer (some ⟨b,0,none⟩)
abbrev txt(l:List UInt8):Value:=.string ⟨l.toArray⟩
def bt(l:List UInt8)(k:Nat):Int:=(((l[k]?).getD 0).toNat:Int)
def um(l:List UInt8):List Value:=l.map fun x=>.int .u8 (x.toNat:Int)
theorem iC(l:List UInt8):(um l).length=l.length:=by simp[um]
theorem EK(l:List UInt8)(k:Nat)(h:k<l.length):(um l)[k]'(by rw[iC];exact h)=.int .u8 (bt l k):=by
 simp[um,bt,h]
theorem U6(l:List UInt8)(k:Nat)(v:Value)(h:(um l)[k]? = some v):k<l.length/\v=.int .u8 (bt l k):=by
 have a:k<(um l).length:=(List.getElem?_eq_some_iff.1 h).1;rw[iC] at a;refine⟨a,?_⟩;rw[List.getElem?_eq_getElem (by rw[iC];exact a),EK l k a] at h;exact(Option.some.inj h).symm
theorem M6(l:List UInt8):∀v∈um l,v.oneCell'=true:=by
 intro v a;obtain⟨x,_,rfl⟩:=List.mem_map.1 a;rfl
theorem DX(l:List UInt8)(k:Nat)(h:l.length<=k):bt l k=0:=by
 simp[bt,List.getElem?_eq_none h]
theorem Yj(a b:List UInt8)(k:Nat)(h:k<a.length):bt (a++b) k=bt a k:=by
 simp[bt,List.getElem?_append_left h]
theorem UZ(a b:List UInt8)(k:Nat):bt (a++b) (a.length+k)=bt b k:=by
 simp[bt,List.getElem?_append_right]
theorem Yk(l:List UInt8)(n k:Nat):bt (l.drop n) k=bt l (n+k):=by
 simp[bt,List.getElem?_drop]
structure Tb (w:World) (b:Nat) (F I:Int) (B:List UInt8):Prop where
 few:B.length<=16
 aR:w.cell? ⟨b,2,none⟩=some (.int .i64 F)
 int:w.cell? ⟨b,3,none⟩=some (.int .i64 I)
 byte:∀k,k<16->w.cell? ⟨b,4+k,none⟩=some (.int .u8 (bt B k))
 held:w.cell? ⟨b,20,none⟩=some (.int .i64 (B.length:Int))
 live:∀k,k<21->w.frozen? ⟨b,k,none⟩=false
section
variable {w w':World}{b:Nat}{F I:Int}{B:List UInt8}
theorem Tb.keep(h:Tb w b F I B)(c:w'.heap[b]? = w.heap[b]?):Tb w' b F I B:=
 ⟨h.few,by rw[cell?_of_block (w:=w) (a:=⟨b,2,none⟩) c];exact h.aR,by rw[cell?_of_block (w:=w) (a:=⟨b,3,none⟩) c];exact h.int,
  fun k d=>by rw[cell?_of_block (w:=w) (a:=⟨b,4+k,none⟩) c];exact h.byte k d,by rw[cell?_of_block (w:=w) (a:=⟨b,20,none⟩) c];exact h.held,
  fun k d=>by rw[World.frozen?_of_block (w:=w) (a:=⟨b,k,none⟩) c];exact h.live k d⟩
theorem jM{b i j:Nat}(h:i≠j):(⟨b,i,none⟩:Addr)≠⟨b,j,none⟩:=by
 intro e;simp only[Addr.mk.injEq,true_and,and_true] at e;exact h e
theorem Tb.nQ(h:Tb w b F I B)(v:Int):Tb (w.setCell ⟨b,2,none⟩ (.int .i64 v)) b v I B:=
 ⟨h.few,cell?_setCell_same _ _ _ h.aR,by rw[cell?_setCell_other _ _ _ _ (jM (by omega))];exact h.int,
  fun k a=>by rw[cell?_setCell_other _ _ _ _ (jM (by omega))];exact h.byte k a,by rw[cell?_setCell_other _ _ _ _ (jM (by omega))];exact h.held,
  fun k a=>by rw[frozen?_setCell];exact h.live k a⟩
theorem Tb.acd(h:Tb w b F I B)(v:Int):Tb (w.setCell ⟨b,3,none⟩ (.int .i64 v)) b F v B:=
 ⟨h.few,by rw[cell?_setCell_other _ _ _ _ (jM (by omega))];exact h.aR,cell?_setCell_same _ _ _ h.int,
  fun k a=>by rw[cell?_setCell_other _ _ _ _ (jM (by omega))];exact h.byte k a,by rw[cell?_setCell_other _ _ _ _ (jM (by omega))];exact h.held,
  fun k a=>by rw[frozen?_setCell];exact h.live k a⟩
theorem Tb.uH(h:Tb w b F I B)(o n:Nat)(a:4<=o)(c:o+n<=20):∀j,j<n->(w.cell? ⟨b,o+j,none⟩).isSome=true:=by
 intro j d;have:=h.byte (o+j-4) (by omega);rw[show 4+(o+j-4)=o+j by omega] at this;rw[this];rfl
theorem Tb.free_at(h:Tb w b F I B)(o n:Nat)(a:o+n<=20):∀j,j<n->w.frozen? ⟨b,o+j,none⟩=false:=fun j c=>h.live (o+j) (by omega)
theorem dM{k o n:Nat}{a:List Value}(c:a.length=n)(h:k<o\/o+n<=k):(w.setCells b o a).cell? ⟨b,k,none⟩=w.cell? ⟨b,k,none⟩:=
 World.cell?_setCells_out b a o w ⟨b,k,none⟩ (fun _ _=>by show k<o\/o+a.length<=k;omega)
theorem Tb.write(h:Tb w b F I B)(S:List UInt8)(l:B.length+S.length<=16):Tb ((w.setCells b (4+B.length) (um S)).setCell ⟨b,20,none⟩ (.int .i64 ((B.length:Int)+(S.length:Int)))) b F I (B++S):=by
 have a:=iC S;have d:=h.uH (4+B.length) S.length (by omega) (by omega);refine⟨by rw[length_append];exact l,?_,?_,fun k c=>?_,?_,fun k c=>by rw[frozen?_setCell,frozen?_setCells];exact h.live k c⟩
 ·rw[cell?_setCell_other _ _ _ _ (jM (by omega)),dM a (by omega)];exact h.aR
 ·rw[cell?_setCell_other _ _ _ _ (jM (by omega)),dM a (by omega)];exact h.int
 ·rw[cell?_setCell_other _ _ _ _ (jM (by omega))];by_cases m:k<B.length
  ·rw[dM a (by omega),h.byte k c,Yj _ _ _ m]
  ·obtain⟨j,rfl⟩:∃j,k=B.length+j:=⟨k-B.length,by omega⟩;rw[UZ];by_cases f:j<S.length
   ·rw[show 4+(B.length+j)=4+B.length+j by omega,World.cell?_setCells_in b (um S) (4+B.length) w (fun i e=>d i (by rw[a] at e;exact e)) j (by rw[a];exact f),EK S j f]
   ·rw[dM a (by omega),h.byte _ c,DX _ _ (by omega),DX _ _ (by omega)]
 ·have g:(w.setCells b (4+B.length) (um S)).cell? ⟨b,20,none⟩=some (.int .i64 (B.length:Int)):=by rw[dM a (by omega)];exact h.held
  rw[cell?_setCell_same _ _ _ g,length_append];simp
theorem Tb.take(h:Tb w b F I B)(n:Nat)(v:n<=B.length):Tb (((w.setCells b 4 (um (B.drop n))).setCell ⟨b,20,none⟩ (.int .i64 ((B.length-n:Nat):Int))).setCells b (4+(B.length-n)) (replicate (16-(B.length-n)) (.int .u8 0))) b F I (B.drop n):=by
 have x:=h.few;have l:(B.drop n).length=B.length-n:=by simp
 have f:(um (B.drop n)).length=B.length-n:=by rw[iC,l]
 have e:(replicate (16-(B.length-n)) (Value.int .u8 0)).length=16-(B.length-n):=by simp
 have o:=h.uH 4 (B.length-n) (by omega) (by omega);obtain⟨c,a⟩:∃c,(w.setCells b 4 (um (B.drop n))).setCell ⟨b,20,none⟩ (.int .i64 ((B.length-n:Nat):Int))=c:=⟨_,rfl⟩;have p:∀k,k<16->c.cell? ⟨b,4+k,none⟩=some (.int .u8 (if k<B.length-n then bt (B.drop n) k else bt B k)):=by
  intro k d;rw[<-a,cell?_setCell_other _ _ _ _ (jM (by omega))];by_cases g:k<B.length-n
  ·rw[if_pos g,World.cell?_setCells_in b (um (B.drop n)) 4 w (fun i m=>o i (by rw[f] at m;exact m)) k (by rw[f];exact g),EK _ k (by rw[l];exact g)]
  ·rw[if_neg g,dM f (by omega),h.byte k d]
 have q:∀k,k<21->c.frozen? ⟨b,k,none⟩=false:=fun k d=>by rw[<-a,frozen?_setCell,frozen?_setCells];exact h.live k d
 have u:c.cell? ⟨b,2,none⟩=some (.int .i64 F):=by rw[<-a,cell?_setCell_other _ _ _ _ (jM (by omega)),dM f (by omega)];exact h.aR
 have r:c.cell? ⟨b,3,none⟩=some (.int .i64 I):=by rw[<-a,cell?_setCell_other _ _ _ _ (jM (by omega)),dM f (by omega)];exact h.int
 have g:c.cell? ⟨b,20,none⟩=some (.int .i64 ((B.length-n:Nat):Int)):=by
  have s:(w.setCells b 4 (um (B.drop n))).cell? ⟨b,20,none⟩=some (.int .i64 (B.length:Int)):=by rw[dM f (by omega)];exact h.held
  rw[<-a,cell?_setCell_same _ _ _ s]
 rw[a];refine⟨by rw[l];omega,?_,?_,fun k d=>?_,?_,fun k d=>by rw[frozen?_setCells];exact q k d⟩
 ·rw[dM e (by omega)];exact u
 ·rw[dM e (by omega)];exact r
 ·by_cases t:k<B.length-n
  ·rw[dM e (by omega),p k d,if_pos t]
  ·obtain⟨j,rfl⟩:∃j,k=B.length-n+j:=⟨k-(B.length-n),by omega⟩;rw[show 4+(B.length-n+j)=4+(B.length-n)+j by omega,World.cell?_setCells_in b (replicate (16-(B.length-n)) (Value.int .u8 0)) (4+(B.length-n)) c (fun i m=>by rw[e] at m;rw[show 4+(B.length-n)+i=4+(B.length-n+i) by omega,p _ (by omega)];rfl) j (by rw[e];omega),DX _ _ (by rw[l];omega)];simp
 ·rw[dM e (by omega),g,l]
end
def opE(e:Int):Int:=if e=2\/e=3 then 0 else 1
def opF(F e:Int):Int:=if e=2 then F+1 else F
def opI(I e:Int):Int:=if e=3 then I+1 else I
def Zv(F I e:Int):Int:=if e=2 then (if F=0 then 6 else 0) else if e=3 then (if I=0 then 6 else 0) else 1
def Vw(F e:Int):Int:=if e=2/\F≠0 then F-1 else F
def Vv(I e:Int):Int:=if e=3/\I≠0 then I-1 else I
def Le(F:Int)(B s:List UInt8):Int:=if F=0 then 14 else if s=[] then 0 else if B.length=16 then 12 else 0
def Nc(F:Int)(B s:List UInt8):Nat:=if F=0 then 0 else min s.length (16-B.length)
def I6(F:Int)(B s:List UInt8):List UInt8:=if F=0 then B else B++s.take (16-B.length)
def IQ(I:Int)(B:List UInt8)(n:Int):Int:=if n<0 then 2 else if n=0 then 0 else if B=[]/\0<I then 8 else 0
theorem VL(F:Int)(B s:List UInt8)(h:B.length<=16):(I6 F B s).length<=16:=by
 unfold I6;split
 ·exact h
 ·rw[length_append,length_take];omega
def erT(c:Int):Value:=if c=0 then .nilIface else .iface 25 (.int .i64 c)
theorem Bt{P:Program}(w:World)(k m l c:TypeId)(b o a d:Nat)(s:List UInt8)
 (p:P.underlying k=some (.slice c)) (n:∀w,(Go.sizeOf c).run P w=.ok 1 w)
 (u:∀j,j<a->(w.cell? ⟨b,o+j,none⟩).isSome=true) (t:∀j,j<a->w.frozen? ⟨b,o+j,none⟩=false) :
 (Builtin.copy_ #[k,m] l #[.slice (some ⟨b,o,none⟩) a d,txt s]).run P w=.ok (.int .i64 ((s.take a).length:Int)) (w.setCells b o (um (s.take a))):=by
 have i:(um (s.take a)).length=min a s.length:=by rw[iC,length_take]
 have g:=run_storeCells_cells (P:=P) b o (um (s.take a)) 0 w (by rw[i];intro j r;simpa using u j (by omega)) (by rw[i];intro j r;simpa using t j (by omega)) (M6 _);have f:(⟨s.toArray⟩:ByteArray).size=s.length:=by simp[ByteArray.size]
 have q:Nat.min s.length a=min a s.length:=Nat.min_comm _ _;have e:List.take (min a s.length) (List.map (fun x:UInt8=>Value.int .u8 (x.toNat:Int)) s)=um (s.take a):=by
  unfold um;rw[List.map_take];by_cases h:a<=s.length
  ·rw[Nat.min_eq_left h]
  ·rw[Nat.min_eq_right (by omega),take_of_length_le (by simp),take_of_length_le (by simp;omega)]
 simp[Builtin.copy_,run_underlying p,Builtin.lenOf,Builtin.firstCells,n,f,q];rw[e,g];simp[Result.andThen,goInt]
theorem aV(w:World)(b o:Nat)(v:Value):w.grownBy (w.setCell ⟨b,o,none⟩ v) (some b):=
 ⟨rfl,rfl,rfl,by simp[World.setCell],fun k _ h=>Below.heap_setCell _ _ _ _ (fun e=>h (by rw[e]))⟩
theorem nG(b:Nat):∀(d:List Value) (o:Nat) (w:World),w.grownBy (w.setCells b o d) (some b)
 | [],_,w=>World.grownBy.refl w _
 |v::r,o,w=>by
  rw[World.setCells];have h:=aV w b o v;have k:=nG b r (o+1) (w.setCell ⟨b,o,none⟩ v);exact⟨k.os.trans h.os,k.tape.trans h.tape,k.output.trans h.output,Nat.le_trans h.size k.size,fun i c a=>(k.block i (Nat.lt_of_lt_of_le c h.size) a).trans (h.block i c a)⟩
theorem AV(b:Nat):∀(a:List Value) (o:Nat) (w:World),(w.setCells b o a).drew=w.drew.setCells b o a
 | [],_,_=>rfl
 |v::r,o,w=>by rw[World.setCells,World.setCells,AV b r];rfl
theorem jm{w w':World}{r:Option Nat}(h:w.grownBy w' r):w.grownBy w'.drew r:=⟨h.os,h.tape,h.output,h.size,h.block⟩
theorem iI{w w' a:World}{r:Option Nat}(h:w.grownBy w' r)(k:w'.grownBy a r):w.grownBy a r:=
 ⟨k.os.trans h.os,k.tape.trans h.tape,k.output.trans h.output,Nat.le_trans h.size k.size,fun i c b=>(k.block i (Nat.lt_of_lt_of_le c h.size) b).trans (h.block i c b)⟩
theorem Zg(b K:Nat)(d:K<16)(w:World):(Instr.sliceAt 298 (.pointer (some ⟨b,4,none⟩)) (some (.int .i64 (K:Int))) none none).run prog w=.ok (.slice (some ⟨b,4+K,none⟩) (16-K) (16-K)) w:=by
 have a:prog.arrayLen 298=16:=by kernel_rfl
 have c:prog.elem 298=5:=by kernel_rfl
 have h:=run_sliceAt_array_l (P:=prog) w 298 ⟨b,4,none⟩ (by kernel_rfl) .i64 (K:Int) (by omega) (by rw[a];omega);rw[h,a,c,sizeOf5];simp only[Result.andThen,slicedAt,Int.toNat_natCast];rw[if_neg (by omega),Addr.add_lit,Nat.mul_one]
theorem ady(b n:Nat)(d:n<=16)(w:World):(Instr.sliceAt 298 (.pointer (some ⟨b,4,none⟩)) none (some (.int .i64 (n:Int))) none).run prog w=.ok (.slice (some ⟨b,4,none⟩) n 16) w:=by
 have a:prog.arrayLen 298=16:=by kernel_rfl
 have c:prog.elem 298=5:=by kernel_rfl
 have h:=run_sliceAt_array_h (P:=prog) w 298 ⟨b,4,none⟩ (by kernel_rfl) .i64 (n:Int) (by omega) (by rw[a];omega);rw[h,a,c,sizeOf5];simp only[Result.andThen,slicedAt,Int.toNat_natCast];rw[if_neg (by omega),Addr.add_lit];rfl
theorem abq(b n K:Nat)(e:n<16)(c:n<=K)(f:K<=16)(w:World):(Instr.sliceAt 298 (.pointer (some ⟨b,4,none⟩)) (some (.int .i64 (n:Int))) (some (.int .i64 (K:Int))) none).run prog w=.ok (.slice (some ⟨b,4+n,none⟩) (K-n) (16-n)) w:=by
 have a:prog.arrayLen 298=16:=by kernel_rfl
 have d:prog.elem 298=5:=by kernel_rfl
 have h:=run_sliceAt_array_lh (P:=prog) w 298 ⟨b,4,none⟩ (by kernel_rfl) .i64 .i64 (n:Int) (K:Int) (by omega) (by omega) (by rw[a];omega);rw[h,a,d,sizeOf5];simp only[Result.andThen,slicedAt,Int.toNat_natCast];rw[if_neg (by omega),Addr.add_lit,Nat.mul_one]
theorem Yo(b:Nat)(w:World):(Instr.sliceAt 298 (.pointer (some ⟨b,4,none⟩)) (some (.int .i64 16)) (some (.int .i64 16)) none).run prog w=.ok (.slice (some ⟨b,4,none⟩) 0 0) w:=by
 have a:prog.arrayLen 298=16:=by kernel_rfl
 have c:prog.elem 298=5:=by kernel_rfl
 have h:=run_sliceAt_array_lh (P:=prog) w 298 ⟨b,4,none⟩ (by kernel_rfl) .i64 .i64 16 16 (by omega) (by omega) (by rw[a];omega);rw[h,a,c,sizeOf5];rfl
theorem Yp(b:Nat)(w:World):(Instr.sliceAt 298 (.pointer (some ⟨b,4,none⟩)) none none none).run prog w=.ok (.slice (some ⟨b,4,none⟩) 16 16) w:=by
 have a:prog.arrayLen 298=16:=by kernel_rfl
 have c:prog.elem 298=5:=by kernel_rfl
 have h:=run_sliceAt_array_all (P:=prog) w 298 ⟨b,4,none⟩ (by kernel_rfl);rw[h,a,c,sizeOf5];rfl
section
variable {w:World}{b:Nat}{F I:Int}{B:List UInt8}
theorem ab9(w:World)(b:Nat)(e:Int):Calls prog 340 #[tp b,.int .i64 e] w fun x d=>x=.returned (.bool (decide (e=2\/e=3)))/\d=w:=by
 by_cases c:e=2
 ·subst c;go_enter func340,ntmps340
  go_wp2;go_ret;exact⟨rfl,rfl⟩
 ·by_cases a:e=3
  ·subst a;go_enter func340,ntmps340
   go_wp2;go_ret;exact⟨rfl,rfl⟩
  ·rw[decide_eq_false (show ¬(e=2\/e=3) by omega)];go_enter func340,ntmps340
   go_wp2;go_ret;exact⟨by simp[c,a],rfl⟩
theorem F8(w:World)(b:Nat)(e:Int)(h:¬(e=2\/e=3)):Calls prog 340 #[tp b,.int .i64 e] w fun x a=>x=.returned (.bool false)/\a=w:=by
 have:=ab9 w b e;rw[decide_eq_false h] at this;exact this
theorem oz(w:World)(b:Nat)(e:Int)(h:e=2\/e=3):Calls prog 340 #[tp b,.int .i64 e] w fun x a=>x=.returned (.bool true)/\a=w:=by
 have:=ab9 w b e;rw[decide_eq_true h] at this;exact this
theorem Tb.ends(h:Tb w b F I B):Calls prog 311 #[tp b] w fun x a=>x=.returned (.tuple #[.int .i64 F,.int .i64 I])/\∃q,a=w.drewN q:=by
 have d:=h.aR;have c:=h.int;go_enter Tryz.func311,Tryz.ntmps311
 go_wp2
 go_quiet (fail)
 go_wp2;go_ret2;exact⟨rfl,_,rfl⟩
theorem Tb.len(h:Tb w b F I B):Calls prog 310 #[tp b] w fun x a=>x=.returned (.int .i64 (B.length:Int))/\a=w:=by
 have c:=h.held;go_enter Tryz.func310,Tryz.ntmps310
 go_wp2;go_ret;exact⟨rfl,rfl⟩
theorem Tb.rf(h:Tb w b F I B)(e:Int)(hF:0<=F)(g:F<1000)(n:0<=I)(f:I<1000):Calls prog 309 #[tp b,.int .i64 e] w fun x a=>x=.returned (erT (opE e))/\Tb a b (opF F e) (opI I e) B/\w.grownBy a (some b):=by
 have p:=h.aR;have o:=h.int;have m:=h.live 2 (by omega);have l:=h.live 3 (by omega);by_cases d:e=2
 ·subst d;go_enter func309,ntmps309
  go_wp2_with (go_at_call 340;refine(oz _ b 2 (by omega)).mono ?_;rintro x a ⟨rfl,rfl⟩)
  go_region
  go_wp2;go_ret;exact⟨rfl,(h.nQ (F+1)).keep rfl,jm (aV _ _ _ _)⟩
 ·by_cases c:e=3
  ·subst c;go_enter func309,ntmps309
   go_wp2_with (go_at_call 340;refine(oz _ b 3 (by omega)).mono ?_;rintro x a ⟨rfl,rfl⟩)
   go_region
   go_wp2;go_ret;exact⟨rfl,(h.acd (I+1)).keep rfl,jm (aV _ _ _ _)⟩
  ·have k:opE e=1:=by unfold opE;rw[if_neg (by omega)]
   have j:opF F e=F:=by unfold opF;rw[if_neg d]
   have i:opI I e=I:=by unfold opI;rw[if_neg c]
   rw[k,j,i];go_enter func309,ntmps309
   go_wp2_with (go_at_call 340;refine(F8 _ b e (by omega)).mono ?_;rintro x a ⟨rfl,rfl⟩)
   go_ret;exact⟨rfl,h,World.grownBy.refl _ _⟩
end
section
variable {w:World}{b:Nat}{F I:Int}{B:List UInt8}
theorem Tb.zM(h:Tb w b F I B)(e:Int)(hF:0<=F)(m:F<1000)(p:0<=I)(l:I<1000):Calls prog 329 #[tp b,.int .i64 e] w fun x c=>x=.returned (erT (Zv F I e))/\Tb c b (Vw F e) (Vv I e) B/\w.grownBy c (some b):=by
 have r:=h.aR;have q:=h.int;have o:=h.live 2 (by omega);have n:=h.live 3 (by omega);by_cases j:e=2
 ·subst j;by_cases a:F=0
  ·subst a;go_enter func329,ntmps329
   go_wp2_with (go_at_call 340;refine(oz _ b 2 (by omega)).mono ?_;rintro x c ⟨rfl,rfl⟩)
   go_ret;exact⟨rfl,h,World.grownBy.refl _ _⟩
  ·have g:Zv F I 2=0:=by unfold Zv;rw[if_pos rfl,if_neg a]
   have f:Vw F 2=F-1:=by unfold Vw;rw[if_pos ⟨rfl,a⟩]
   have d:Vv I 2=I:=by unfold Vv;rw[if_neg (by omega)]
   have k:(F==0)=false:=by simp[a]
   rw[g,f,d];go_enter func329,ntmps329
   go_wp2_with (go_at_call 340;refine(oz _ b 2 (by omega)).mono ?_;rintro x c ⟨rfl,rfl⟩)
   go_region
   go_wp2;go_ret;exact⟨rfl,(h.nQ (F-1)).keep rfl,jm (aV _ _ _ _)⟩
 ·by_cases i:e=3
  ·subst i;by_cases a:I=0
   ·subst a;go_enter func329,ntmps329
    go_wp2_with (go_at_call 340;refine(oz _ b 3 (by omega)).mono ?_;rintro x c ⟨rfl,rfl⟩)
    go_ret;exact⟨rfl,h,World.grownBy.refl _ _⟩
   ·have g:Zv F I 3=0:=by unfold Zv;rw[if_neg (by omega),if_pos rfl,if_neg a]
    have f:Vw F 3=F:=by unfold Vw;rw[if_neg (by omega)]
    have d:Vv I 3=I-1:=by unfold Vv;rw[if_pos ⟨rfl,a⟩]
    have k:(I==0)=false:=by simp[a]
    rw[g,f,d];go_enter func329,ntmps329
    go_wp2_with (go_at_call 340;refine(oz _ b 3 (by omega)).mono ?_;rintro x c ⟨rfl,rfl⟩)
    go_region
    go_wp2;go_ret;exact⟨rfl,(h.acd (I-1)).keep rfl,jm (aV _ _ _ _)⟩
  ·have g:Zv F I e=1:=by unfold Zv;rw[if_neg j,if_neg i]
   have f:Vw F e=F:=by unfold Vw;rw[if_neg (by omega)]
   have d:Vv I e=I:=by unfold Vv;rw[if_neg (by omega)]
   rw[g,f,d];go_enter func329,ntmps329
   go_wp2_with (go_at_call 340;refine(F8 _ b e (by omega)).mono ?_;rintro x c ⟨rfl,rfl⟩)
   go_ret;exact⟨rfl,h,World.grownBy.refl _ _⟩
theorem iJ(w:World)(q:Nat)(r:Option Nat):w.grownBy (w.drewN q) r:=⟨rfl,rfl,rfl,Nat.le_refl _,fun _ _ _=>rfl⟩
theorem Tb.zk(h:Tb w b F I B)(s:List UInt8):Calls prog 272 #[tp b,txt s] w fun x f=>x=.returned (.tuple #[.int .i64 (Nc F B s:Int),erT (Le F B s)])/\Tb f b F I (I6 F B s)/\w.grownBy f (some b):=by
 have u:=h.ends;by_cases a:F=0
 ·subst a;go_enter func272,ntmps272
  go_wp2_with fail
  refine u.mono ?_;rintro x w1 ⟨rfl,q,rfl⟩;go_wp2_with fail
  go_ret2;exact⟨rfl,h.keep rfl,iJ _ _ _⟩
 ·have H:(F==0)=false:=by simp[a]
  by_cases p:s=[]
  ·subst p;have k:Le F B []=0:=by unfold Le;rw[if_neg a,if_pos rfl]
   have j:Nc F B []=0:=by unfold Nc;rw[if_neg a];simp
   have i:I6 F B []=B:=by unfold I6;rw[if_neg a];simp
   rw[k,j,i];go_enter func272,ntmps272
   go_wp2_with fail
   refine u.mono ?_;rintro x w1 ⟨rfl,q,rfl⟩;go_wp2_with fail
   go_ret2;exact⟨rfl,h.keep rfl,iJ _ _ _⟩
  ·have A:s.isEmpty=false:=by cases s with
    |nil=>exact absurd rfl p
    |cons _ _=>rfl
   have l:=h.held;by_cases g:B.length=16
   ·have k:Le F B s=12:=by unfold Le;rw[if_neg a,if_neg p,if_pos g]
    have j:Nc F B s=0:=by unfold Nc;rw[if_neg a,g];simp
    have i:I6 F B s=B:=by unfold I6;rw[if_neg a,g];simp
    rw[g] at l;rw[k,j,i];go_enter func272,ntmps272
    go_wp2_with fail
    refine u.mono ?_;rintro x w1 ⟨rfl,q,rfl⟩;go_wp2_with fail
    go_ret2;exact⟨rfl,h.keep rfl,iJ _ _ _⟩
   ·have G:=h.few;have k:Le F B s=0:=by unfold Le;rw[if_neg a,if_neg p,if_neg g]
    obtain⟨S,r⟩:∃S,s.take (16-B.length)=S:=⟨_,rfl⟩;have m:S.length=min s.length (16-B.length):=by rw[<-r,length_take];exact Nat.min_comm _ _
    have j:Nc F B s=S.length:=by unfold Nc;rw[if_neg a,m]
    have i:I6 F B s=B++S:=by unfold I6;rw[if_neg a,r]
    rw[k,j,i];have o:B.length+S.length<=16:=by omega
    obtain⟨K,t⟩:∃K,B.length=K:=⟨_,rfl⟩;have D:((K:Int)==16)=false:=by simp;omega
    have E:=h.live 20 (by omega);have d:∀q v,(Builtin.copy_ #[34,9] v #[.slice (some ⟨b,4+K,none⟩) (16-K) (16-K),txt s]).run prog (w.drewN (q+1))=.ok (.int .i64 (S.length:Int)) ((w.drewN (q+1)).setCells b (4+K) (um S)):=fun q v=>by
     rw[<-r,<-t];exact Bt (w.drewN (q+1)) 34 9 v 5 b (4+B.length) (16-B.length) (16-B.length) s underlying34 (fun _=>sizeOf5 _) ((h.keep (w':=w.drewN (q+1)) rfl).uH _ _ (by omega) (by omega)) ((h.keep (w':=w.drewN (q+1)) rfl).free_at _ _ (by omega))
    have z:∀q,((w.drewN (q+1)).setCells b (4+K) (um S)).cell? ⟨b,20,none⟩=some (.int .i64 (K:Int)):=fun q=>by
     rw[dM (n:=S.length) (iC S) (by omega),<-t];exact(h.keep (w':=w.drewN (q+1)) rfl).held
    have c:∀q,((w.drewN (q+1)).setCells b (4+K) (um S)).frozen? ⟨b,20,none⟩=false:=fun q=>by
     rw[frozen?_setCells];exact E
    have e:∀q,Tb (((w.drewN (q+1)).setCells b (4+K) (um S)).setCell ⟨b,20,none⟩ (.int .i64 ((K:Int)+(S.length:Int)))) b F I (B++S):=fun q=>by
     rw[<-t];exact(h.keep (w':=w.drewN (q+1)) rfl).write S o
    have y:∀q,w.grownBy (((w.drewN (q+1)).setCells b (4+K) (um S)).setCell ⟨b,20,none⟩ (.int .i64 ((K:Int)+(S.length:Int)))) (some b):=fun q=>
     iI (iI (iJ w (q+1) _) (nG b _ _ _)) (aV _ _ _ _)
    rw[t] at l o G;have C:=Zg b K (by omega);clear r m k j i g h;generalize um S=bS at *;generalize S.length=nS at *;go_enter func272,ntmps272
    go_wp2_with fail
    refine u.mono ?_;rintro x w1 ⟨rfl,q,rfl⟩;have d:=d q;have z:=z q;have c:=c q;have e:=e q;have y:=y q;go_wp2_with fail
    go_region
    go_wp2_with fail
    go_ret2;exact⟨rfl,e,y⟩
end
theorem KY(w:World)(b n c:Nat)(B:List UInt8)(f:n<=B.length)(e:∀k,k<n->w.cell? ⟨b,4+k,none⟩=some (.int .u8 (bt B k))):(convert 34 9 (.slice (some ⟨b,4,none⟩) n c)).run prog w=.ok (txt (B.take n)) w:=by
 have h:=run_convert_bytes_arg (P:=prog) w 34 5 underlying34 Tryz.underlying5 b 4 n c ((B.take n).map fun x=>(x.toNat:Int)) (by simp;omega) (fun i d=>by
  have a:i<B.length:=by omega
  rw[e i d];congr 2
  simp[bt,List.getD,a,List.getElem?_take_of_lt d]) 9 Tryz.underlying9
 rw[h,show strOfNums ((B.take n).map fun x=>(x.toNat:Int))=⟨(B.take n).toArray⟩ by apply ByteArray.ext;simp[strOfNums,Function.comp_def]]
section
variable {w:World}{b:Nat}{F I:Int}{B:List UInt8}
theorem Tb.V8(h:Tb w b F I B)(n:Nat)(X:1<=n)(r:n<=B.length):Calls prog 312 #[tp b,.int .i64 (n:Int)] w fun x g=>x=.returned (txt (B.take n))/\Tb g b F I (B.drop n)/\w.grownBy g (some b):=by
 have W:=h.few;have V:=h.live 20 (by omega);have y:=ady b n (by omega);have S:=KY w b n 16 B r (fun k J=>h.byte k (by omega));have p:=h.held;have A:=Yp b;have i:(B.drop n).length=B.length-n:=by simp
 have J:Tb (w.drewN 1) b F I B:=h.keep rfl;have c:∀e (s:Value),s=(if n=16 then .slice (some ⟨b,4,none⟩) 0 0 else .slice (some ⟨b,4+n,none⟩) (B.length-n) (16-n))->
  (Builtin.copy_ #[34,34] e #[.slice (some ⟨b,4,none⟩) 16 16,s]).run prog w.drew=.ok (.int .i64 ((B.length-n:Nat):Int)) (w.drew.setCells b 4 (um (B.drop n))):=by
  rintro e s rfl;by_cases f:n=16
  ·rw[if_pos f];have O:B.drop n=[]:=List.drop_eq_nil_of_le (by omega);have:=run_copy_none (P:=prog) w.drew 34 34 e 5 (some ⟨b,4,none⟩) (some ⟨b,4,none⟩) 16 16 0 0 underlying34 (by kernel_rfl) (by rfl);rw[this,O,show B.length-n=0 by omega];rfl
  ·rw[if_neg f];have:=run_copy_cells (P:=prog) w.drew 34 34 e 5 b 4 16 16 ⟨b,4+n,none⟩ (B.length-n) (16-n) (um (B.drop n)) underlying34 (by kernel_rfl) (by rw[iC,i];exact(Nat.min_eq_left (by omega)).symm) (fun j v H=>by
    obtain⟨z,rfl⟩:=U6 _ _ _ H;rw[Addr.add_lit,Yk,show 4+n+j=4+(n+j) by omega];exact(h.keep (w':=w.drew) rfl).byte (n+j) (by omega)) (by rw[iC,i];exact(h.keep (w':=w.drew) rfl).uH 4 _ (by omega) (by omega)) (by rw[iC,i];exact(h.keep (w':=w.drew) rfl).free_at 4 _ (by omega)) (M6 _)
   rw[this,iC,i];rfl
 obtain⟨D,l⟩:∃D,B.length-n=D:=⟨_,rfl⟩;have u:D<16:=by omega
 obtain⟨d,a⟩:∃d,w.drew.setCells b 4 (um (B.drop n))=d:=⟨_,rfl⟩;have o:d.cell? ⟨b,20,none⟩=some (.int .i64 (B.length:Int)):=by
  rw[<-a,dM (n:=D) (by rw[iC,i,l]) (by omega)];exact p
 have L:d.frozen? ⟨b,20,none⟩=false:=by rw[<-a,frozen?_setCells];exact V
 have Q:=Zg b D u;have C:=(h.keep (w':=w.drew) rfl).take n r;rw[l,a] at C;have U:∀e,(Builtin.clear_ #[34] e #[.slice (some ⟨b,4+D,none⟩) (16-D) (16-D)]).run prog (d.setCell ⟨b,20,none⟩ (.int .i64 (D:Int))).drew=.ok (.tuple #[]) ((d.setCell ⟨b,20,none⟩ (.int .i64 (D:Int))).drew.setCells b (4+D) (replicate (16-D) (.int .u8 0))):=fun e=>
  Lib.run_clear_slice _ 34 5 e (.int .u8 0) underlying34 (fun _=>Tryz.zeroValue5 _) rfl rfl b (4+D) (16-D) (16-D) (by omega) (fun j z=>by
   show ((d.setCell ⟨b,20,none⟩ (.int .i64 (D:Int))).cell? ⟨b,4+D+j,none⟩).isSome=true;rw[cell?_setCell_other _ _ _ _ (jM (by omega)),<-a,dM (n:=D) (by rw[iC,i,l]) (by omega)];exact(h.keep (w':=w.drew) rfl).uH 4 16 (by omega) (by omega) (D+j) (by omega) |> fun x=>by rw[show 4+D+j=4+(D+j) by omega];exact x) (fun j z=>by
   show (d.setCell ⟨b,20,none⟩ (.int .i64 (D:Int))).frozen? ⟨b,4+D+j,none⟩=false;rw[frozen?_setCell,<-a,frozen?_setCells];exact h.live (4+D+j) (by omega))
 have G:w.grownBy (((d.setCell ⟨b,20,none⟩ (.int .i64 (D:Int))).drew).setCells b (4+D) (replicate (16-D) (.int .u8 0))) (some b):=by
  rw[<-a];exact iI (jm (iI (iI (jm (World.grownBy.refl w _)) (nG b _ 4 _)) (aV _ _ _ _))) (nG b _ _ _)
 have q:Tb ((d.setCell ⟨b,20,none⟩ (.int .i64 (D:Int))).drew.setCells b (4+D) (replicate (16-D) (.int .u8 0))) b F I (B.drop n):=C.keep (by
  rw[show ((d.setCell ⟨b,20,none⟩ (.int .i64 (D:Int))).drew.setCells b (4+D) (replicate (16-D) (.int .u8 0)))=((d.setCell ⟨b,20,none⟩ (.int .i64 (D:Int))).setCells b (4+D) (replicate (16-D) (.int .u8 0))).drew from (AV b _ _ _).symm];rfl)
 have M:(d.setCell ⟨b,20,none⟩ (.int .i64 (D:Int))).cell? ⟨b,20,none⟩=some (.int .i64 (D:Int)):=cell?_setCell_same _ _ _ o;rw[l,a] at c;obtain⟨K,N⟩:∃K,B.length=K:=⟨_,rfl⟩;rw[N] at p o r W l;generalize B.take n=T at *;generalize B.drop n=E at *;generalize replicate (16-D) (Value.int .u8 0)=zs at *;by_cases f:n=16
 ·subst f;have R:=Yo b;have t:=fun e=>c e _ (if_pos rfl).symm;obtain rfl:K=16:=by omega
  go_enter Tryz.func312,Tryz.ntmps312
  go_wp2_with fail
  go_region
  go_wp2_with fail
  go_region
  go_wp2_with fail
  go_ret;exact⟨rfl,q,G⟩
 ·have m:=abq b n K (by omega) r (by omega);simp only[l] at m;have t:=fun e=>c e _ (if_neg f).symm;go_enter Tryz.func312,Tryz.ntmps312
  go_wp2_with fail
  go_region
  go_wp2_with fail
  go_region
  go_wp2_with fail
  go_ret;exact⟨rfl,q,G⟩
theorem Tb.Eg(h:Tb w b F I B)(n:Int)(L:0<=I):Calls prog 255 #[tp b,.int .i64 n] w fun x y=>x=.returned (.tuple #[txt (B.take n.toNat),erT (IQ I B n)])/\Tb y b F I (B.drop n.toNat)/\w.grownBy y (some b):=by
 have z:=h.ends;have k:=h.len;have t:=h.held;have J:=h.few;by_cases p:n<0
 ·have f:IQ I B n=2:=by unfold IQ;rw[if_pos p]
  have r:n.toNat=0:=by omega
  rw[f,r,List.take_zero,List.drop_zero];go_enter func255,ntmps255
  go_wp2_with fail
  go_ret2;exact⟨rfl,h,World.grownBy.refl _ _⟩
 ·by_cases j:n=0
  ·subst j;go_enter func255,ntmps255
   go_wp2_with fail
   go_ret2;exact⟨rfl,h,World.grownBy.refl _ _⟩
  ·have C:(n==0)=false:=by simp[j]
   by_cases v:B=[]
   ·subst v;by_cases l:0<I
    ·have f:IQ I [] n=8:=by unfold IQ;rw[if_neg p,if_neg j,if_pos ⟨rfl,l⟩]
     rw[f,List.take_nil,List.drop_nil];go_enter func255,ntmps255
     go_wp2_with fail
     refine k.mono ?_;rintro x a ⟨rfl,s⟩;subst a;go_wp2_with fail
     refine z.mono ?_;rintro x a ⟨rfl,q,rfl⟩;go_wp2_with fail
     go_ret2;exact⟨rfl,h.keep rfl,iJ _ _ _⟩
    ·have f:IQ I [] n=0:=by unfold IQ;rw[if_neg p,if_neg j,if_neg (fun e=>l e.2)]
     rw[f,List.take_nil,List.drop_nil];go_enter func255,ntmps255
     go_wp2_with fail
     refine k.mono ?_;rintro x a ⟨rfl,s⟩;subst a;go_wp2_with fail
     refine z.mono ?_;rintro x a ⟨rfl,q,rfl⟩;go_wp2_with fail
     go_ret2;exact⟨rfl,h.keep rfl,iJ _ _ _⟩
   ·have u:0<B.length:=by cases B with
     |nil=>exact absurd rfl v
     |cons _ _=>simp
    have f:IQ I B n=0:=by unfold IQ;rw[if_neg p,if_neg j,if_neg (fun e=>v e.1)]
    have r:B.take n.toNat=B.take (min n.toNat B.length):=by
     by_cases i:n.toNat<=B.length
     ·rw[Nat.min_eq_left i]
     ·rw[Nat.min_eq_right (by omega),take_of_length_le (by omega),take_of_length_le (by omega)]
    have A:B.drop n.toNat=B.drop (min n.toNat B.length):=by
     by_cases i:n.toNat<=B.length
     ·rw[Nat.min_eq_left i]
     ·rw[Nat.min_eq_right (by omega),List.drop_eq_nil_of_le (by omega),List.drop_eq_nil_of_le (by omega)]
    obtain⟨m,i⟩:∃m,min n.toNat B.length=m:=⟨_,rfl⟩;rw[i] at r A;have o:=h.V8 m (by omega) (by omega);rw[f,r,A];obtain⟨K,H⟩:∃K,B.length=K:=⟨_,rfl⟩;rw[H] at t J u i k;have G:((K:Int)==0)=false:=by simp;omega
    generalize B.take m=T at *;generalize B.drop m=E at *;by_cases D:n<=(K:Int)
    ·have c:(m:Int)=n:=by omega
     rw[c] at o;go_enter func255,ntmps255
     go_wp2_with fail
     refine k.mono ?_;rintro x a ⟨rfl,s⟩;subst a;go_wp2_with fail
     refine o.mono ?_;rintro x a ⟨rfl,d,g⟩;go_wp2_with fail
     go_ret2;exact⟨rfl,d,g⟩
    ·have c:m=K:=by omega
     rw[c] at o;go_enter func255,ntmps255
     go_wp2_with fail
     refine k.mono ?_;rintro x a ⟨rfl,s⟩;subst a;go_wp2_with fail
     refine o.mono ?_;rintro x a ⟨rfl,d,g⟩;go_wp2_with fail
     go_ret2;exact⟨rfl,d,g⟩
end
end Go.Proofs.YtippochapiolpaaGreatDoor

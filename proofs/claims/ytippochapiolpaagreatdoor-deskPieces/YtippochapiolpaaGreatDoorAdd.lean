/- Ours. -/
import Derived.Test.YtippochapiolpaaGreatDoorTell
import Derived.BigQuiet
set_option maxHeartbeats 2000000
namespace Go.Proofs.YtippochapiolpaaGreatDoor
open Go.Proofs.Tryz(func327 func84 ntmps327 ntmps84 prog)
section
def put(U:Nat->Int)(k:Nat)(v:Int):Nat->Int:=fun i=>if i=k then v else U i
theorem Gm(U:Nat->Int)(k:Nat)(v:Int):put U k v k=v:=by simp[put]
theorem oO(U:Nat->Int)(k i:Nat)(v:Int)(h:i≠k):put U k v i=U i:=by simp[put,h]
def Fit(U:Nat->Int):Prop:=∀k,0<=U k/\U k<=1000000
theorem Fit.put{U:Nat->Int}(h:Fit U)(k:Nat)(v:Int)(b:0<=v)(a:v<=1000000):Fit (put U k v):=by
 intro i;unfold Proofs.YtippochapiolpaaGreatDoor.put;split
 ·exact⟨b,a⟩
 ·exact h i
def why(U M:Nat->Int)(k n:Int):Int:=
 if ¬(0<=k/\k<3) then 1 else if ¬(-1000000<=n/\n<=1000000) then 2 else
  if 0<n/\M k.toNat<U k.toNat+n then 4 else if U k.toNat+n<0 then 6 else 0
def after(U:Nat->Int)(k n:Int):Nat->Int:=put U k.toNat (U k.toNat+n)
theorem Rx{U M:Nat->Int}{k n:Int}(h:why U M k n=0):(0<=k/\k<3)/\(-1000000<=n/\n<=1000000)/\(0<n->U k.toNat+n<=M k.toNat)/\0<=U k.toNat+n:=by
 unfold why at h;by_cases a:0<=k/\k<3
 ·by_cases b:-1000000<=n/\n<=1000000
  ·by_cases c:0<n/\M k.toNat<U k.toNat+n
   ·simp[a,b,c] at h
   ·by_cases d:U k.toNat+n<0
    ·simp[a,b,c,d] at h
    ·exact⟨a,b,fun e=>by omega,by omega⟩
  ·simp[a,b] at h
 ·simp[a] at h
theorem ZZ{U M:Nat->Int}{k n:Int}(h:why U M k n≠0):(¬(0<=k/\k<3)/\why U M k n=1)\/((0<=k/\k<3)/\¬(-1000000<=n/\n<=1000000)/\why U M k n=2)\/
 ((0<=k/\k<3)/\(-1000000<=n/\n<=1000000)/\0<n/\M k.toNat<U k.toNat+n/\why U M k n=4)\/
 ((0<=k/\k<3)/\(-1000000<=n/\n<=1000000)/\n<=0/\U k.toNat+n<0/\why U M k n=6)\/
 ((0<=k/\k<3)/\(-1000000<=n/\n<=1000000)/\0<n/\¬M k.toNat<U k.toNat+n/\U k.toNat+n<0/\why U M k n=6):=by
 unfold why at h ⊢;by_cases a:0<=k/\k<3
 ·by_cases b:-1000000<=n/\n<=1000000
  ·by_cases c:0<n/\M k.toNat<U k.toNat+n
   ·right;right;left;exact⟨a,b,c.1,c.2,by simp[a,b,c]⟩
   ·by_cases d:U k.toNat+n<0
    ·by_cases e:0<n
     ·right;right;right;right;exact⟨a,b,e,by omega,d,by simp[a,b,c,d]⟩
     ·right;right;right;left;exact⟨a,b,by omega,d,by simp[a,b,c,d]⟩
    ·simp[a,b,c,d] at h
  ·right;left;exact⟨a,b,by simp[a,b]⟩
 ·left;exact⟨a,by simp[a]⟩
theorem Fit.after{U M:Nat->Int}(c:Fit U)(d:Fit M){k n:Int}(h:why U M k n=0):Fit (after U k n):=by
 obtain⟨_,_,g,f⟩:=Rx h;have a:=c k.toNat;have b:=d k.toNat;refine c.put _ _ f ?_;by_cases e:0<n
 ·have:=g e;omega
 ·omega
structure Want where
 kind:Int
 n:Int
def upon(U:Nat->Int)(q:Nat->Want):Nat->Nat->Int
 |0=>U
 |j+1=>after (upon U q j) (q j).kind (q j).n
def fault(U M:Nat->Int)(q:Nat->Want)(j:Nat):Int:=why (upon U q j) M (q j).kind (q j).n
def uw(U M:Nat->Int)(q:Nat->Want)(j:Nat):Prop:=∀i,i<j->fault U M q i=0
theorem uw.fit{U M:Nat->Int}(a:Fit U)(b:Fit M){q:Nat->Want}:∀ {j},uw U M q j->Fit (upon U q j)
 |0,_=>a
 |j+1,h=>Fit.after (uw.fit a b (j:=j) (fun i c=>h i (by omega))) b (h j (by omega))
theorem uw.next{U M:Nat->Int}{q:Nat->Want}{j:Nat}(h:uw U M q j)(a:fault U M q j=0):uw U M q (j+1):=by
 intro i b;by_cases e:i=j
 ·rw[e];exact a
 ·exact h i (by omega)
end
section
open Go.RowKit
abbrev lp(b:Nat):Value:=.pointer (some ⟨b,0,none⟩)
structure oV (w:World) (b:Nat) (U M:Nat->Int):Prop where
 has:∀k,k<3->w.cell? ⟨b,k,none⟩=some (.int .i64 (U k))
 may:∀k,k<3->w.cell? ⟨b,3+k,none⟩=some (.int .i64 (M k))
 live:∀k,k<6->w.frozen? ⟨b,k,none⟩=false
theorem oV.keep{w w':World}{b:Nat}{U M:Nat->Int}(h:oV w b U M)(d:w'.heap[b]? = w.heap[b]?):oV w' b U M:=
 ⟨fun k c=>by rw[World.cell?_of_block (w:=w) (a:=⟨b,k,none⟩) d];exact h.has k c,
  fun k c=>by rw[World.cell?_of_block (w:=w) (a:=⟨b,3+k,none⟩) d];exact h.may k c,
  fun k c=>by rw[World.frozen?_of_block (w:=w) (a:=⟨b,k,none⟩) d];exact h.live k c⟩
theorem oV.lt{w:World}{b:Nat}{U M:Nat->Int}(h:oV w b U M):b<w.heap.size:=World.block_lt_of_cell? w _ (h.has 0 (by omega))
theorem oV.yu{w:World}{b:Nat}{U M:Nat->Int}(h:oV w b U M)(k:Nat)(d:k<3)(v:Int):oV (w.setCell ⟨b,k,none⟩ (.int .i64 v)) b (put U k v) M:=by
 refine⟨fun i a=>?_,fun i a=>?_,fun i a=>by rw[World.frozen?_setCell];exact h.live i a⟩
 ·by_cases e:i=k
  ·subst e;rw[World.cell?_setCell_same _ _ _ (h.has i a),Gm]
  ·rw[World.cell?_setCell_other _ _ _ _ (by intro c;simp only[Addr.mk.injEq,true_and,and_true] at c;omega),h.has i a,oO _ _ _ _ e]
 ·rw[World.cell?_setCell_other _ _ _ _ (by intro c;simp only[Addr.mk.injEq,true_and,and_true] at c;omega)];exact h.may i a
theorem oV.uM{w:World}{b:Nat}{U M:Nat->Int}(h:oV w b U M)(k:Nat)(d:k<3)(v:Int):oV (w.setCell ⟨b,3+k,none⟩ (.int .i64 v)) b U (put M k v):=by
 refine⟨fun i a=>?_,fun i a=>?_,fun i a=>by rw[World.frozen?_setCell];exact h.live i a⟩
 ·rw[World.cell?_setCell_other _ _ _ _ (by intro c;simp only[Addr.mk.injEq,true_and,and_true] at c;omega)];exact h.has i a
 ·by_cases e:i=k
  ·subst e;rw[World.cell?_setCell_same _ _ _ (h.may i a),Gm]
  ·rw[World.cell?_setCell_other _ _ _ _ (by intro c;simp only[Addr.mk.injEq,true_and,and_true] at c;omega),h.may i a,oO _ _ _ _ e]
theorem cu(w:World)(b o:Nat)(v:Value):w.grownBy (w.setCell ⟨b,o,none⟩ v) (some b):=
 ⟨rfl,rfl,rfl,by simp[World.setCell],fun k _ h=>Below.heap_setCell _ _ _ _ (fun e=>h (by rw[e]))⟩
theorem MM(w:World)(b:Nat)(k:Int):Calls prog 84 #[lp b,.int .i64 k] w fun e a=>e=.returned (.bool (decide (0<=k/\k<3)))/\a=w:=by
 by_cases d:0<=k
 ·by_cases c:k<3
  ·rw[decide_eq_true (show 0<=k/\k<3 from⟨d,c⟩)];go_enter func84,ntmps84
   go_wp2;go_ret;exact⟨rfl,rfl⟩
  ·rw[decide_eq_false (show ¬(0<=k/\k<3) by omega)];go_enter func84,ntmps84
   go_wp2;go_ret;exact⟨rfl,rfl⟩
 ·rw[decide_eq_false (show ¬(0<=k/\k<3) by omega)];go_enter func84,ntmps84
  go_wp2;go_ret;exact⟨rfl,rfl⟩
theorem nz(w:World)(b:Nat)(k:Int)(h:0<=k/\k<3):Calls prog 84 #[lp b,.int .i64 k] w fun e a=>e=.returned (.bool true)/\a=w:=by
 have:=MM w b k;rw[decide_eq_true h] at this;exact this
theorem XJ(w:World)(b:Nat)(k:Int)(h:¬(0<=k/\k<3)):Calls prog 84 #[lp b,.int .i64 k] w fun e a=>e=.returned (.bool false)/\a=w:=by
 have:=MM w b k;rw[decide_eq_false h] at this;exact this
abbrev ask(k n:Int):Value:=.agg #[.int .i64 k,.int .i64 n]
theorem kU{p:Prop}(h:p):Hid p:=h
theorem oV.more{w:World}{b:Nat}{U M:Nat->Int}(l:oV w b U M)(o:Obj):oV (w.alloc o) b U M:=l.keep (Below.heap_alloc _ _ _ l.lt)
theorem E8(w:World)(o:Obj)(r:Option Nat):w.grownBy (w.alloc o) r:=⟨rfl,rfl,rfl,by simp,fun _ a _=>Below.heap_alloc _ _ _ a⟩
theorem nK{w w1 w2:World}{r:Option Nat}(h:w.grownBy w1 r)(a:w2.heap=w1.heap)(f:w2.os=w1.os)(e:w2.tape=w1.tape)(d:w2.output=w1.output):w.grownBy w2 r:=
 ⟨f.trans h.os,e.trans h.tape,d.trans h.output,by rw[a];exact h.size,fun i c b=>by rw[a];exact h.block i c b⟩
theorem aP{w w1 w2:World}{r:Option Nat}(h:w.grownBy w1 r)(k:w1.grownBy w2 r):w.grownBy w2 r:=
 ⟨k.os.trans h.os,k.tape.trans h.tape,k.output.trans h.output,Nat.le_trans h.size k.size,fun i b a=>(k.block i (Nat.lt_of_lt_of_le b h.size) a).trans (h.block i b a)⟩
theorem below_drewN{B:Nat}{w w':World}(n:Nat)(h:Below B w w'):Below B w (w'.drewN n):=⟨h.os,h.tape,h.output,h.size,h.block⟩
theorem oV.drewN{w:World}{b:Nat}{U M:Nat->Int}(n:Nat)(l:oV w b U M):oV (w.drewN n) b U M:=l.keep rfl
theorem Yt(w:World)(b:Nat)(k n:Int)(h:¬(0<=k/\k<3)):Calls prog 327 #[lp b,ask k n] w fun e a=>e=.returned (.int .i64 1)/\Below w.heap.size w a:=by
 go_enter func327,ntmps327
 go_wp2_with (go_at_call 84;refine(XJ _ b k h).mono ?_;rintro e a ⟨rfl,rfl⟩)
 go_ret;exact⟨rfl,(Below.refl _ _).alloc (Nat.le_refl _) _⟩
theorem Qt(w:World)(b:Nat)(k n:Int)(h:0<=k/\k<3)(c:¬(-1000000<=n/\n<=1000000)):Calls prog 327 #[lp b,ask k n] w fun e a=>e=.returned (.int .i64 2)/\Below w.heap.size w a:=by
 by_cases f:n < -1000000
 ·go_enter func327,ntmps327
  go_wp2_with (go_at_call 84;refine(nz _ b k h).mono ?_;rintro e a ⟨rfl,rfl⟩)
  go_ret;exact⟨rfl,(Below.refl _ _).alloc (Nat.le_refl _) _⟩
 ·have d:1000000<n:=by omega
  go_enter func327,ntmps327
  go_wp2_with (go_at_call 84;refine(nz _ b k h).mono ?_;rintro e a ⟨rfl,rfl⟩)
  go_ret;exact⟨rfl,(Below.refl _ _).alloc (Nat.le_refl _) _⟩
theorem Qu{w:World}{b:Nat}{U M:Nat->Int}(l:oV w b U M)(d:Fit U)(f:Fit M)(k n:Int)(i:0<=k)(h:k<3)(s:-1000000<=n)(r:n<=1000000)(q:0<n)(p:M k.toNat<U k.toNat+n):Calls prog 327 #[lp b,ask k n] w fun e g=>e=.returned (.int .i64 4)/\Below w.heap.size w g:=by
 have a:=l.more (.cells #[.int .i64 k,.int .i64 n] 328);have c:=a.has k.toNat (by omega);have m:=a.may k.toNat (by omega);have u1:=(d k.toNat).1;have u2:=(d k.toNat).2;have o:=(f k.toNat).1;have j:=(f k.toNat).2;generalize U k.toNat=u at *;generalize M k.toNat=v at *;clear l a d f;go_enter func327,ntmps327
 go_wp2_with (go_at_call 84;refine(nz _ b k ⟨i,h⟩).mono ?_;rintro e g ⟨rfl,rfl⟩)
 go_quiet (fail)
 go_wp2_with fail
 go_quiet (fail)
 go_wp2_with fail
 go_ret;exact⟨rfl,by repeat first|exact(Below.refl _ _).alloc (Nat.le_refl _) _|refine below_drewN _ ?_⟩
theorem Qs{w:World}{b:Nat}{U M:Nat->Int}(l:oV w b U M)(a:Fit U)(k n:Int)(i:0<=k)(h:k<3)(p:-1000000<=n)(o:n<=1000000)(g:n<=0)(m:U k.toNat+n<0):Calls prog 327 #[lp b,ask k n] w fun e d=>e=.returned (.int .i64 6)/\Below w.heap.size w d:=by
 have f:=l.more (.cells #[.int .i64 k,.int .i64 n] 328);have c:=f.has k.toNat (by omega);have u1:=(a k.toNat).1;have u2:=(a k.toNat).2;have j:decide (0<n)=false:=by simpa using g
 generalize U k.toNat=u at *;clear l f a;go_enter func327,ntmps327
 go_wp2_with (go_at_call 84;refine(nz _ b k ⟨i,h⟩).mono ?_;rintro e d ⟨rfl,rfl⟩)
 go_quiet (fail)
 go_wp2_with fail
 go_quiet (fail)
 go_wp2_with fail
 go_ret;exact⟨rfl,by repeat first|exact(Below.refl _ _).alloc (Nat.le_refl _) _|refine below_drewN _ ?_⟩
theorem zh{w:World}{b:Nat}{U M:Nat->Int}(l:oV w b U M)(i:Fit U)(j:Fit M)(k n:Int)(h:why U M k n=0):Calls prog 327 #[lp b,ask k n] w fun e g=>e=.returned (.int .i64 0)/\oV g b (after U k n) M/\w.grownBy g (some b):=by
 obtain⟨⟨r,q⟩,⟨D,C⟩,o,B⟩:=Rx h;clear h;have a:=l.more (.cells #[.int .i64 k,.int .i64 n] 328);have d:∀x,oV (((w.alloc (.cells #[.int .i64 k,.int .i64 n] 328)).drewN x).setCell ⟨b,k.toNat,none⟩ (.int .i64 (U k.toNat+n))) b (after U k n) M:=fun x=>(a.drewN x).yu k.toNat (by omega) _;have c:=a.has k.toNat (by omega);have m:=a.may k.toNat (by omega);have f:=a.live k.toNat (by omega);have u1:=(i k.toNat).1;have u2:=(i k.toNat).2;have t:=(j k.toNat).1;have s:=(j k.toNat).2;have F:=kU d;have G:=kU (aP (E8 w (.cells #[.int .i64 k,.int .i64 n] 328) (some b)) (cu _ b k.toNat (.int .i64 (U k.toNat+n))));generalize U k.toNat=u at *;generalize M k.toNat=v at *;clear l a i j d;by_cases p:0<n
 ·have A:=o p;have z:¬v<u+n:=by omega
  clear o;go_enter func327,ntmps327
  go_wp2_with (go_at_call 84;refine(nz _ b k ⟨r,q⟩).mono ?_;rintro e g ⟨rfl,rfl⟩)
  go_quiet (fail)
  go_wp2_with fail
  go_quiet (fail)
  go_wp2_with fail
  go_region
  go_wp2_with fail
  go_ret;exact⟨rfl,oV.keep (F.out 0) rfl,nK G.out rfl rfl rfl rfl⟩
 ·have y:decide (0<n)=false:=by simpa using p
  clear o;go_enter func327,ntmps327
  go_wp2_with (go_at_call 84;refine(nz _ b k ⟨r,q⟩).mono ?_;rintro e g ⟨rfl,rfl⟩)
  go_quiet (fail)
  go_wp2_with fail
  go_quiet (fail)
  go_wp2_with fail
  go_region
  go_wp2_with fail
  go_ret;exact⟨rfl,oV.keep (F.out 0) rfl,nK G.out rfl rfl rfl rfl⟩
end
end Go.Proofs.YtippochapiolpaaGreatDoor

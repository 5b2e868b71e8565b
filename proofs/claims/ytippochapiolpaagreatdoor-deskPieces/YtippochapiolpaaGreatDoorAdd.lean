/- How much there is, and may be: the document's words on a ledger as plain facts on numbers. -/
import Derived.WalkKit
import Derived.Test.YtippochapiolpaaGreatDoorTell
import Derived.WalkLawsBesides
import Derived.Outline
import Derived.BigQuiet
import Derived.Deep.QuietTactic
import Derived.RegionTactic
set_option maxHeartbeats 2000000
namespace Go.Proofs.YtippochapiolpaaGreatDoor
def put (U:Nat→Int) (k:Nat) (v:Int):Nat→Int:=fun i=>if i=k then v else U i
theorem Gm (U:Nat→Int) (k:Nat) (v:Int):put U k v k=v:=by simp [put]
theorem oO (U:Nat→Int) (k i:Nat) (v:Int) (h:i≠k):put U k v i=U i:=by simp [put,h]
def Fit (U:Nat→Int):Prop:=∀k,0≤U k∧U k≤1000000
theorem Fit.put {U:Nat→Int}(h:Fit U) (k:Nat) (v:Int) (h1:0≤v) (h2:v≤1000000):Fit (put U k v):=by
 intro i
 unfold Proofs.YtippochapiolpaaGreatDoor.put
 split
 ·exact ⟨h1,h2⟩
 ·exact h i
def why (U M:Nat→Int) (k n:Int):Int:=
 if ¬(0≤k∧k<3) then 1 else if ¬(-1000000≤n∧n≤1000000) then 2 else
  if 0<n∧M k.toNat<U k.toNat+n then 4 else if U k.toNat+n<0 then 6 else 0
def after (U:Nat→Int) (k n:Int):Nat→Int:=put U k.toNat (U k.toNat+n)
theorem Ry {U M:Nat→Int}{k n:Int}(h:why U M k n=0):(0≤k∧k<3)∧(-1000000≤n∧n≤1000000)∧(0<n→U k.toNat+n≤M k.toNat)∧0≤U k.toNat+n:=by
 unfold why at h
 by_cases h1:0≤k∧k<3
 ·by_cases h2:-1000000≤n∧n≤1000000
  ·by_cases h3:0<n∧M k.toNat<U k.toNat+n
   ·simp [h1,h2,h3] at h
   ·by_cases h4:U k.toNat+n<0
    ·simp [h1,h2,h3,h4] at h
    ·exact ⟨h1,h2,fun h5=>by omega,by omega⟩
  ·simp [h1,h2] at h
 ·simp [h1] at h
theorem aaa {U M:Nat→Int}{k n:Int}(h:why U M k n≠0) :
 (¬(0≤k∧k<3)∧why U M k n=1)∨((0≤k∧k<3)∧¬(-1000000≤n∧n≤1000000)∧why U M k n=2)∨
 ((0≤k∧k<3)∧(-1000000≤n∧n≤1000000)∧0<n∧M k.toNat<U k.toNat+n∧why U M k n=4)∨
 ((0≤k∧k<3)∧(-1000000≤n∧n≤1000000)∧n≤0∧U k.toNat+n<0∧why U M k n=6)∨
 ((0≤k∧k<3)∧(-1000000≤n∧n≤1000000)∧0<n∧¬M k.toNat<U k.toNat+n∧U k.toNat+n<0∧why U M k n=6):=by
 unfold why at h ⊢
 by_cases h1:0≤k∧k<3
 ·by_cases h2:-1000000≤n∧n≤1000000
  ·by_cases h3:0<n∧M k.toNat<U k.toNat+n
   ·right;right;left;exact ⟨h1,h2,h3.1,h3.2,by simp [h1,h2,h3]⟩
   ·by_cases h4:U k.toNat+n<0
    ·by_cases h5:0<n
     ·right;right;right;right;exact ⟨h1,h2,h5,by omega,h4,by simp [h1,h2,h3,h4]⟩
     ·right;right;right;left;exact ⟨h1,h2,by omega,h4,by simp [h1,h2,h3,h4]⟩
    ·simp [h1,h2,h3,h4] at h
  ·right;left;exact ⟨h1,h2,by simp [h1,h2]⟩
 ·left;exact ⟨h1,by simp [h1]⟩
theorem Fit.after {U M:Nat→Int}(hU:Fit U) (hM:Fit M) {k n:Int}(h:why U M k n=0):Fit (after U k n):=by
 obtain ⟨_,_,h3,h4⟩:=Ry h
 have a:=hU k.toNat
 have b:=hM k.toNat
 refine hU.put _ _ h4 ?_
 by_cases h5:0<n
 ·have:=h3 h5;omega
 ·omega
structure Want where
 kind:Int
 n:Int
def upon (U:Nat→Int) (q:Nat→Want):Nat→Nat→Int
 |0=>U
 |j+1=>after (upon U q j) (q j).kind (q j).n
def fault (U M:Nat→Int) (q:Nat→Want) (j:Nat):Int:=why (upon U q j) M (q j).kind (q j).n
def uw (U M:Nat→Int) (q:Nat→Want) (j:Nat):Prop:=∀i,i<j→fault U M q i=0
theorem uw.fit {U M:Nat→Int}(hU:Fit U) (hM:Fit M) {q:Nat→Want}:∀ {j},uw U M q j→Fit (upon U q j)
 |0,_=>hU
 |j+1,h=>Fit.after (uw.fit hU hM (j:=j) (fun i hi=>h i (by omega))) hM (h j (by omega))
theorem uw.next {U M:Nat→Int}{q:Nat→Want}{j:Nat}(h:uw U M q j) (h1:fault U M q j=0):uw U M q (j+1):=by
 intro i hi
 by_cases e:i=j
 ·rw [e];exact h1
 ·exact h i (by omega)
end Go.Proofs.YtippochapiolpaaGreatDoor
namespace Go.Proofs.YtippochapiolpaaGreatDoor
open Go.RowKit
abbrev lp (b:Nat):Value:=.pointer (some ⟨b,0,none⟩)
structure oV (w:World) (b:Nat) (U M:Nat→Int):Prop where
 has:∀k,k<3→w.cell? ⟨b,k,none⟩=some (.int .i64 (U k))
 may:∀k,k<3→w.cell? ⟨b,3+k,none⟩=some (.int .i64 (M k))
 live:∀k,k<6→w.frozen? ⟨b,k,none⟩=false
theorem oV.keep {w w':World}{b:Nat}{U M:Nat→Int}(h:oV w b U M) (hb:w'.heap[b]? = w.heap[b]?):oV w' b U M:=
 ⟨fun k hk=>by rw [World.cell?_of_block (w:=w) (a:=⟨b,k,none⟩) hb];exact h.has k hk,
  fun k hk=>by rw [World.cell?_of_block (w:=w) (a:=⟨b,3+k,none⟩) hb];exact h.may k hk,
  fun k hk=>by rw [World.frozen?_of_block (w:=w) (a:=⟨b,k,none⟩) hb];exact h.live k hk⟩
theorem oV.lt {w:World}{b:Nat}{U M:Nat→Int}(h:oV w b U M):b<w.heap.size:=World.block_lt_of_cell? w _ (h.has 0 (by omega))
theorem oV.yu {w:World}{b:Nat}{U M:Nat→Int}(h:oV w b U M) (k:Nat) (hk:k<3) (v:Int) :
 oV (w.setCell ⟨b,k,none⟩ (.int .i64 v)) b (put U k v) M:=by
 refine ⟨fun i hi=>?_,fun i hi=>?_,fun i hi=>by rw [World.frozen?_setCell];exact h.live i hi⟩
 ·by_cases e:i=k
  ·subst e;rw [World.cell?_setCell_same _ _ _ (h.has i hi),Gm]
  ·rw [World.cell?_setCell_other _ _ _ _ (by intro e';simp only [Addr.mk.injEq,true_and,and_true] at e';omega),h.has i hi,oO _ _ _ _ e]
 ·rw [World.cell?_setCell_other _ _ _ _ (by intro e';simp only [Addr.mk.injEq,true_and,and_true] at e';omega)];exact h.may i hi
theorem oV.uM {w:World}{b:Nat}{U M:Nat→Int}(h:oV w b U M) (k:Nat) (hk:k<3) (v:Int) :
 oV (w.setCell ⟨b,3+k,none⟩ (.int .i64 v)) b U (put M k v):=by
 refine ⟨fun i hi=>?_,fun i hi=>?_,fun i hi=>by rw [World.frozen?_setCell];exact h.live i hi⟩
 ·rw [World.cell?_setCell_other _ _ _ _ (by intro e';simp only [Addr.mk.injEq,true_and,and_true] at e';omega)];exact h.has i hi
 ·by_cases e:i=k
  ·subst e;rw [World.cell?_setCell_same _ _ _ (h.may i hi),Gm]
  ·rw [World.cell?_setCell_other _ _ _ _ (by intro e';simp only [Addr.mk.injEq,true_and,and_true] at e';omega),h.may i hi,oO _ _ _ _ e]
theorem cu (w:World) (b o:Nat) (v:Value):w.grownBy (w.setCell ⟨b,o,none⟩ v) (some b):=
 ⟨rfl,rfl,rfl,by simp [World.setCell],fun k _ h=>Below.heap_setCell _ _ _ _ (fun e=>h (by rw [e]))⟩
theorem MN (w:World) (b:Nat) (k:Int) :
 Calls Tryz.prog 84 #[lp b,.int .i64 k] w fun e w'=>e=.returned (.bool (decide (0≤k∧k<3)))∧w'=w:=by
 by_cases h1:0≤k
 ·by_cases h2:k<3
  ·rw [decide_eq_true (show 0≤k∧k<3 from ⟨h1,h2⟩)]
   go_enter Tryz.func84,Tryz.ntmps84
   go_wp2
   go_ret
   exact ⟨rfl,rfl⟩
  ·rw [decide_eq_false (show ¬(0≤k∧k<3) by omega)]
   go_enter Tryz.func84,Tryz.ntmps84
   go_wp2
   go_ret
   exact ⟨rfl,rfl⟩
 ·rw [decide_eq_false (show ¬(0≤k∧k<3) by omega)]
  go_enter Tryz.func84,Tryz.ntmps84
  go_wp2
  go_ret
  exact ⟨rfl,rfl⟩
theorem nz (w:World) (b:Nat) (k:Int) (h:0≤k∧k<3):Calls Tryz.prog 84 #[lp b,.int .i64 k] w fun e w'=>e=.returned (.bool true)∧w'=w:=by
 have:=MN w b k;rw [decide_eq_true h] at this;exact this
theorem XT (w:World) (b:Nat) (k:Int) (h:¬(0≤k∧k<3)):Calls Tryz.prog 84 #[lp b,.int .i64 k] w fun e w'=>e=.returned (.bool false)∧w'=w:=by
 have:=MN w b k;rw [decide_eq_false h] at this;exact this
abbrev ask (k n:Int):Value:=.agg #[.int .i64 k,.int .i64 n]
theorem kU {p:Prop}(h:p):Hid p:=h
theorem oV.more {w:World}{b:Nat}{U M:Nat→Int}(l:oV w b U M) (o:Obj):oV (w.alloc o) b U M:=l.keep (Below.heap_alloc _ _ _ l.lt)
theorem E8 (w:World) (o:Obj) (r:Option Nat):w.grownBy (w.alloc o) r:=⟨rfl,rfl,rfl,by simp,fun _ hi _=>Below.heap_alloc _ _ _ hi⟩
theorem nK {w w1 w2:World}{r:Option Nat}(h:w.grownBy w1 r) (h1:w2.heap=w1.heap) (h2:w2.os=w1.os) (h3:w2.tape=w1.tape) (h4:w2.output=w1.output):w.grownBy w2 r:=
 ⟨h2.trans h.os,h3.trans h.tape,h4.trans h.output,by rw [h1];exact h.size,fun i hi hn=>by rw [h1];exact h.block i hi hn⟩
theorem aP {w w1 w2:World}{r:Option Nat}(h:w.grownBy w1 r) (k:w1.grownBy w2 r):w.grownBy w2 r:=
 ⟨k.os.trans h.os,k.tape.trans h.tape,k.output.trans h.output,Nat.le_trans h.size k.size,fun i hi hn=>(k.block i (Nat.lt_of_lt_of_le hi h.size) hn).trans (h.block i hi hn)⟩
theorem below_drewN {B:Nat}{w w':World}(n:Nat) (h:Below B w w'):Below B w (w'.drewN n):=⟨h.os,h.tape,h.output,h.size,h.block⟩
theorem oV.drewN {w:World}{b:Nat}{U M:Nat→Int}(n:Nat) (l:oV w b U M):oV (w.drewN n) b U M:=l.keep rfl
theorem YE (w:World) (b:Nat) (k n:Int) (h:¬(0≤k∧k<3)) :
 Calls Tryz.prog 327 #[lp b,ask k n] w fun e w'=>e=.returned (.int .i64 1)∧Below w.heap.size w w':=by
 go_enter Tryz.func327,Tryz.ntmps327
 go_wp2_with (go_at_call 84;refine (XT _ b k h).mono ?_;rintro e w' ⟨rfl,rfl⟩)
 go_ret
 exact ⟨rfl,(Below.refl _ _).alloc (Nat.le_refl _) _⟩
theorem Qv (w:World) (b:Nat) (k n:Int) (h:0≤k∧k<3) (hn:¬(-1000000≤n∧n≤1000000)) :
 Calls Tryz.prog 327 #[lp b,ask k n] w fun e w'=>e=.returned (.int .i64 2)∧Below w.heap.size w w':=by
 by_cases h1:n < -1000000
 ·go_enter Tryz.func327,Tryz.ntmps327
  go_wp2_with (go_at_call 84;refine (nz _ b k h).mono ?_;rintro e w' ⟨rfl,rfl⟩)
  go_ret
  exact ⟨rfl,(Below.refl _ _).alloc (Nat.le_refl _) _⟩
 ·have h2:1000000<n:=by omega
  go_enter Tryz.func327,Tryz.ntmps327
  go_wp2_with (go_at_call 84;refine (nz _ b k h).mono ?_;rintro e w' ⟨rfl,rfl⟩)
  go_ret
  exact ⟨rfl,(Below.refl _ _).alloc (Nat.le_refl _) _⟩
theorem Qw {w:World}{b:Nat}{U M:Nat→Int}(l:oV w b U M) (hU:Fit U) (hM:Fit M) (k n:Int) (h1:0≤k) (h2:k<3) (h3:-1000000≤n) (h4:n≤1000000) (h5:0<n) (h6:M k.toNat<U k.toNat+n) :
 Calls Tryz.prog 327 #[lp b,ask k n] w fun e w'=>e=.returned (.int .i64 4)∧Below w.heap.size w w':=by
 have l1:=l.more (.cells #[.int .i64 k,.int .i64 n] 328)
 have c:=l1.has k.toNat (by omega)
 have m:=l1.may k.toNat (by omega)
 have u1:=(hU k.toNat).1
 have u2:=(hU k.toNat).2
 have v1:=(hM k.toNat).1
 have v2:=(hM k.toNat).2
 generalize U k.toNat=u at *
 generalize M k.toNat=v at *
 clear l l1 hU hM
 go_enter Tryz.func327,Tryz.ntmps327
 go_wp2_with (go_at_call 84;refine (nz _ b k ⟨h1,h2⟩).mono ?_;rintro e w' ⟨rfl,rfl⟩)
 go_quiet (fail)
 go_wp2_with fail
 go_quiet (fail)
 go_wp2_with fail
 go_ret
 exact ⟨rfl,by repeat first|exact (Below.refl _ _).alloc (Nat.le_refl _) _|refine below_drewN _ ?_⟩
theorem Qu {w:World}{b:Nat}{U M:Nat→Int}(l:oV w b U M) (hU:Fit U) (k n:Int) (h1:0≤k) (h2:k<3) (h3:-1000000≤n) (h4:n≤1000000) (h5:n≤0) (h6:U k.toNat+n<0) :
 Calls Tryz.prog 327 #[lp b,ask k n] w fun e w'=>e=.returned (.int .i64 6)∧Below w.heap.size w w':=by
 have l1:=l.more (.cells #[.int .i64 k,.int .i64 n] 328)
 have c:=l1.has k.toNat (by omega)
 have u1:=(hU k.toNat).1
 have u2:=(hU k.toNat).2
 have hd:decide (0<n)=false:=by simpa using h5
 generalize U k.toNat=u at *
 clear l l1 hU
 go_enter Tryz.func327,Tryz.ntmps327
 go_wp2_with (go_at_call 84;refine (nz _ b k ⟨h1,h2⟩).mono ?_;rintro e w' ⟨rfl,rfl⟩)
 go_quiet (fail)
 go_wp2_with fail
 go_quiet (fail)
 go_wp2_with fail
 go_ret
 exact ⟨rfl,by repeat first|exact (Below.refl _ _).alloc (Nat.le_refl _) _|refine below_drewN _ ?_⟩
theorem zh {w:World}{b:Nat}{U M:Nat→Int}(l:oV w b U M) (hU:Fit U) (hM:Fit M) (k n:Int) (h:why U M k n=0) :
 Calls Tryz.prog 327 #[lp b,ask k n] w fun e w'=>e=.returned (.int .i64 0)∧oV w' b (after U k n) M∧w.grownBy w' (some b):=by
 obtain ⟨⟨h1,h2⟩,⟨h3,h4⟩,h5,h6⟩:=Ry h
 clear h
 have l1:=l.more (.cells #[.int .i64 k,.int .i64 n] 328)
 have fin:∀x,oV (((w.alloc (.cells #[.int .i64 k,.int .i64 n] 328)).drewN x).setCell ⟨b,k.toNat,none⟩ (.int .i64 (U k.toNat+n))) b (after U k n) M:=fun x=>(l1.drewN x).yu k.toNat (by omega) _
 have c:=l1.has k.toNat (by omega)
 have m:=l1.may k.toNat (by omega)
 have f:=l1.live k.toNat (by omega)
 have u1:=(hU k.toNat).1
 have u2:=(hU k.toNat).2
 have v1:=(hM k.toNat).1
 have v2:=(hM k.toNat).2
 have F:=kU fin
 have G:=kU (aP (E8 w (.cells #[.int .i64 k,.int .i64 n] 328) (some b)) (cu _ b k.toNat (.int .i64 (U k.toNat+n))))
 generalize U k.toNat=u at *
 generalize M k.toNat=v at *
 clear l l1 hU hM fin
 by_cases h7:0<n
 ·have h8:=h5 h7
  have h9:¬v<u+n:=by omega
  clear h5
  go_enter Tryz.func327,Tryz.ntmps327
  go_wp2_with (go_at_call 84;refine (nz _ b k ⟨h1,h2⟩).mono ?_;rintro e w' ⟨rfl,rfl⟩)
  go_quiet (fail)
  go_wp2_with fail
  go_quiet (fail)
  go_wp2_with fail
  go_region
  go_wp2_with fail
  go_ret
  exact ⟨rfl,oV.keep (F.out 0) rfl,nK G.out rfl rfl rfl rfl⟩
 ·have hd:decide (0<n)=false:=by simpa using h7
  clear h5
  go_enter Tryz.func327,Tryz.ntmps327
  go_wp2_with (go_at_call 84;refine (nz _ b k ⟨h1,h2⟩).mono ?_;rintro e w' ⟨rfl,rfl⟩)
  go_quiet (fail)
  go_wp2_with fail
  go_quiet (fail)
  go_wp2_with fail
  go_region
  go_wp2_with fail
  go_ret
  exact ⟨rfl,oV.keep (F.out 0) rfl,nK G.out rfl rfl rfl rfl⟩
end Go.Proofs.YtippochapiolpaaGreatDoor

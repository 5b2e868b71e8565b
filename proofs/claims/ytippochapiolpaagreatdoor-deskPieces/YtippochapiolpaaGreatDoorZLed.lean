/- Ours. -/
import Derived.Test.YtippochapiolpaaGreatDoorCharge
import Derived.Test.YtippochapiolpaaGreatDoorOVic3
set_option maxHeartbeats 800000
namespace Go.Proofs.YtippochapiolpaaGreatDoor
open Go.Proofs.Tryz(func39 func84 ntmps39 ntmps84 prog)
open Go.RowKit
abbrev lq(b:Nat):Value:=.pointer (some ⟨b,2,none⟩)
abbrev hcs(s t:Nat)(U M:Nat->Int)(a:Int):Array Value:=#[wp s,wp t,.int .i64 (U 0),.int .i64 (U 1),.int .i64 (U 2),.int .i64 (M 0),.int .i64 (M 1),.int .i64 (M 2),.int .i64 a]
def Hd(w:World)(b s t:Nat)(U M:Nat->Int)(a:Int):Prop:=w.heap[b]? = some (.cells (hcs s t U M a) 121)
section
variable {w w':World}{b s t:Nat}{U M:Nat→Int}{a:Int}
theorem Hd.keep(h:Hd w b s t U M a)(c:w'.heap[b]? = w.heap[b]?):Hd w' b s t U M a:=c.trans h
theorem Hd.lt(h:Hd w b s t U M a):b<w.heap.size:=by
 rcases Nat.lt_or_ge b w.heap.size with z|z
 ·exact z
 ·unfold Hd at h;rw[Array.getElem?_eq_none (by omega)] at h;cases h
theorem Hd.below(h:Hd w b s t U M a)(c:Below w.heap.size w w'):Hd w' b s t U M a:=h.keep (c.block b h.lt)
theorem Hd.at(h:Hd w b s t U M a)(o:Nat):w.cell? ⟨b,o,none⟩=(hcs s t U M a)[o]? := by rw[cell_of_row w b o _ _ _ h]
theorem Hd.free(h:Hd w b s t U M a)(o:Nat):w.frozen? ⟨b,o,none⟩=false:=by unfold Hd at h;simp[World.frozen?,h]
theorem Hd.has(h:Hd w b s t U M a)(k:Nat)(c:k<3):w.cell? ⟨b,2+k,none⟩=some (.int .i64 (U k)):=by
 rw[h.at]
 match k,c with
 |0,_|1,_|2,_=>rfl
theorem Hd.may(h:Hd w b s t U M a)(k:Nat)(c:k<3):w.cell? ⟨b,5+k,none⟩=some (.int .i64 (M k)):=by
 rw[h.at]
 match k,c with
 |0,_|1,_|2,_=>rfl
theorem Hd.uM(h:Hd w b s t U M a)(k:Nat)(c:k<3)(v:Int):Hd (w.setCell ⟨b,5+k,none⟩ (.int .i64 v)) b s t U (put M k v) a:=by
 unfold Hd;rw[bU w b (5+k) _ _ _ _ h]
 match k,c with
 |0,_|1,_|2,_=>rfl
theorem Hd.Yr(h:Hd w b s t U M a)(v:Int):Hd (w.setCell ⟨b,8,none⟩ (.int .i64 v)) b s t U M v:=by
 unfold Hd;rw[bU w b 8 _ _ _ _ h];rfl
theorem Hd.M9(h:Hd w b s t U M a)(U' c:Nat->Int):Hd ((((((w.setCell ⟨b,2,none⟩ (.int .i64 (U' 0))).setCell ⟨b,3,none⟩ (.int .i64 (U' 1))).setCell ⟨b,4,none⟩ (.int .i64 (U' 2))).setCell ⟨b,5,none⟩ (.int .i64 (c 0))).setCell ⟨b,6,none⟩ (.int .i64 (c 1))).setCell ⟨b,7,none⟩ (.int .i64 (c 2))) b s t U' c a:=by
 unfold Hd;exact bU _ b 7 _ _ _ _ (bU _ b 6 _ _ _ _ (bU _ b 5 _ _ _ _ (bU _ b 4 _ _ _ _ (bU _ b 3 _ _ _ _ (bU _ b 2 _ _ _ _ h)))))
theorem CU(w:World)(b:Nat)(g f e d c a:Value):w.grownBy ((((((w.setCell ⟨b,2,none⟩ g).setCell ⟨b,3,none⟩ f).setCell ⟨b,4,none⟩ e).setCell ⟨b,5,none⟩ d).setCell ⟨b,6,none⟩ c).setCell ⟨b,7,none⟩ a) (some b):=
 aP (aP (aP (aP (aP (cu _ _ _ _) (cu _ _ _ _)) (cu _ _ _ _)) (cu _ _ _ _)) (cu _ _ _ _)) (cu _ _ _ _)
end
theorem GQ(w:World)(b:Nat)(k:Int):Calls prog 84 #[lq b,.int .i64 k] w fun e a=>e=.returned (.bool (decide (0<=k/\k<3)))/\a=w:=by
 by_cases d:0<=k
 ·by_cases c:k<3
  ·rw[decide_eq_true (show 0<=k/\k<3 from⟨d,c⟩)];go_enter func84,ntmps84
   go_wp2;go_ret;exact⟨rfl,rfl⟩
  ·rw[decide_eq_false (show ¬(0<=k/\k<3) by omega)];go_enter func84,ntmps84
   go_wp2;go_ret;exact⟨rfl,rfl⟩
 ·rw[decide_eq_false (show ¬(0<=k/\k<3) by omega)];go_enter func84,ntmps84
  go_wp2;go_ret;exact⟨rfl,rfl⟩
theorem qJ(w:World)(b:Nat)(k:Int)(h:0<=k/\k<3):Calls prog 84 #[lq b,.int .i64 k] w fun e a=>e=.returned (.bool true)/\a=w:=by
 have:=GQ w b k;rw[decide_eq_true h] at this;exact this
theorem Uw(w:World)(b:Nat)(k:Int)(h:¬(0<=k/\k<3)):Calls prog 84 #[lq b,.int .i64 k] w fun e a=>e=.returned (.bool false)/\a=w:=by
 have:=GQ w b k;rw[decide_eq_false h] at this;exact this
def qd(k n:Int):Int:=if ¬(0<=k/\k<3) then 1 else if ¬(0<=n/\n<=1000000) then 2 else 0
def yG(M:Nat->Int)(k n:Int):Nat->Int:=if qd k n=0 then put M k.toNat n else M
section
variable {w w':World}{b s t:Nat}{U M:Nat→Int}{a:Int}
theorem Hd.limit(h:Hd w b s t U M a)(k n:Int):Calls prog 39 #[lq b,.int .i64 k,.int .i64 n] w fun e i=>e=.returned (aI (qd k n))/\Hd i b s t U (yG M k n) a/\w.grownBy i (some b):=by
 have m:w.grownBy w (some b):=⟨rfl,rfl,rfl,Nat.le_refl _,fun _ _ _=>rfl⟩;by_cases g:0<=k/\k<3
 ·by_cases l:0<=n/\n<=1000000
  ·have d:qd k n=0:=by unfold qd;rw[if_neg (not_not_intro g),if_neg (not_not_intro l)]
   have j:yG M k n=put M k.toNat n:=if_pos d;rw[d,j,aB];have c:=h.may k.toNat (by omega);have f:=h.free (5+k.toNat);have F:=kU (h.uM k.toNat (by omega) n);have G:=kU (cu w b (5+k.toNat) (.int .i64 n));obtain⟨p,o⟩:=g;obtain⟨r,q⟩:=l;go_enter func39,ntmps39
   go_wp2_with (go_at_call 84;refine(qJ _ b k ⟨p,o⟩).mono ?_;rintro e i ⟨rfl,rfl⟩)
   go_ret;exact⟨rfl,F.out,G.out⟩
  ·have d:qd k n=2:=by unfold qd;rw[if_neg (not_not_intro g),if_pos l]
   have j:yG M k n=M:=by unfold yG;rw[d];rfl
   rw[d,j,ax (by omega)];by_cases p:n<0
   ·clear d j l;go_enter func39,ntmps39
    go_wp2_with (go_at_call 84;refine(qJ _ b k g).mono ?_;rintro e i ⟨rfl,rfl⟩)
    go_ret;exact⟨rfl,h,m⟩
   ·have o:1000000<n:=by omega
    go_enter func39,ntmps39
    go_wp2_with (go_at_call 84;refine(qJ _ b k g).mono ?_;rintro e i ⟨rfl,rfl⟩)
    go_ret;exact⟨rfl,h,m⟩
 ·have d:qd k n=1:=by unfold qd;rw[if_pos g]
  have j:yG M k n=M:=by unfold yG;rw[d];rfl
  rw[d,j,ax (by omega)];go_enter func39,ntmps39
  go_wp2_with (go_at_call 84;refine(Uw _ b k g).mono ?_;rintro e i ⟨rfl,rfl⟩)
  go_ret;exact⟨rfl,h,m⟩
theorem Hd.used(h:Hd w b s t U M a)(k:Int)(g:0<=k)(f:k<3):Calls prog 222 #[lq b,.int .i64 k] w fun e d=>e=.returned (.int .i64 (U k.toNat))/\d=w:=by
 have c:=h.has k.toNat (by omega);go_enter Tryz.func222,Tryz.ntmps222
 go_wp2_with (go_at_call 84;refine(qJ _ b k ⟨g,f⟩).mono ?_;rintro e d ⟨rfl,rfl⟩)
 go_ret;exact⟨rfl,rfl⟩
theorem Hd.most(h:Hd w b s t U M a)(k:Int)(g:0<=k)(f:k<3):Calls prog 188 #[lq b,.int .i64 k] w fun e d=>e=.returned (.int .i64 (M k.toNat))/\d=w:=by
 have c:=h.may k.toNat (by omega);go_enter Tryz.func188,Tryz.ntmps188
 go_wp2_with (go_at_call 84;refine(qJ _ b k ⟨g,f⟩).mono ?_;rintro e d ⟨rfl,rfl⟩)
 go_ret;exact⟨rfl,rfl⟩
end
end Go.Proofs.YtippochapiolpaaGreatDoor

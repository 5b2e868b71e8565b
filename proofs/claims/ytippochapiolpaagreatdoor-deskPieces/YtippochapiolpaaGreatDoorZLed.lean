/- A ledger inside a process's holding: package acct's Limit, Used, Most and Charge there, and holding.charge, by their Go text. -/
import Derived.Test.YtippochapiolpaaGreatDoorCharge
import Derived.Test.YtippochapiolpaaGreatDoorSKeys
import Derived.Test.YtippochapiolpaaGreatDoorOVic3
set_option maxHeartbeats 800000
namespace Go.Proofs.YtippochapiolpaaGreatDoor
open Go.RowKit
abbrev lq (b:Nat):Value:=.pointer (some ⟨b,2,none⟩)
abbrev hcs (s t:Nat) (U M:Nat→Int) (a:Int):Array Value:=#[wp s,wp t,.int .i64 (U 0),.int .i64 (U 1),.int .i64 (U 2),.int .i64 (M 0),.int .i64 (M 1),.int .i64 (M 2),.int .i64 a]
def Hd (w:World) (b s t:Nat) (U M:Nat→Int) (a:Int):Prop:=w.heap[b]? = some (.cells (hcs s t U M a) 121)
section
variable {w w':World}{b s t:Nat}{U M:Nat→Int}{a:Int}
theorem Hd.keep (h:Hd w b s t U M a) (hb:w'.heap[b]? = w.heap[b]?):Hd w' b s t U M a:=hb.trans h
theorem Hd.lt (h:Hd w b s t U M a):b<w.heap.size:=by
 rcases Nat.lt_or_ge b w.heap.size with z|z
 ·exact z
 ·unfold Hd at h;rw [Array.getElem?_eq_none (by omega)] at h;cases h
theorem Hd.below (h:Hd w b s t U M a) (hb:Below w.heap.size w w'):Hd w' b s t U M a:=h.keep (hb.block b h.lt)
theorem Hd.at (h:Hd w b s t U M a) (o:Nat):w.cell? ⟨b,o,none⟩=(hcs s t U M a)[o]? := by rw [cell_of_row w b o _ _ _ h]
theorem Hd.free (h:Hd w b s t U M a) (o:Nat):w.frozen? ⟨b,o,none⟩=false:=by unfold Hd at h;simp [World.frozen?,h]
theorem Hd.has (h:Hd w b s t U M a) (k:Nat) (hk:k<3):w.cell? ⟨b,2+k,none⟩=some (.int .i64 (U k)):=by
 rw [h.at]
 match k,hk with
 |0,_|1,_|2,_=>rfl
theorem Hd.may (h:Hd w b s t U M a) (k:Nat) (hk:k<3):w.cell? ⟨b,5+k,none⟩=some (.int .i64 (M k)):=by
 rw [h.at]
 match k,hk with
 |0,_|1,_|2,_=>rfl
theorem Hd.uM (h:Hd w b s t U M a) (k:Nat) (hk:k<3) (v:Int):Hd (w.setCell ⟨b,5+k,none⟩ (.int .i64 v)) b s t U (put M k v) a:=by
 unfold Hd
 rw [bU w b (5+k) _ _ _ _ h]
 match k,hk with
 |0,_|1,_|2,_=>rfl
theorem Hd.YD (h:Hd w b s t U M a) (v:Int):Hd (w.setCell ⟨b,8,none⟩ (.int .i64 v)) b s t U M v:=by
 unfold Hd
 rw [bU w b 8 _ _ _ _ h]
 rfl
theorem Hd.Na (h:Hd w b s t U M a) (U' M':Nat→Int):Hd ((((((w.setCell ⟨b,2,none⟩ (.int .i64 (U' 0))).setCell ⟨b,3,none⟩ (.int .i64 (U' 1))).setCell ⟨b,4,none⟩ (.int .i64 (U' 2))).setCell ⟨b,5,none⟩ (.int .i64 (M' 0))).setCell ⟨b,6,none⟩ (.int .i64 (M' 1))).setCell ⟨b,7,none⟩ (.int .i64 (M' 2))) b s t U' M' a:=by
 unfold Hd
 exact bU _ b 7 _ _ _ _ (bU _ b 6 _ _ _ _ (bU _ b 5 _ _ _ _ (bU _ b 4 _ _ _ _ (bU _ b 3 _ _ _ _ (bU _ b 2 _ _ _ _ h)))))
theorem CU (w:World) (b:Nat) (v0 v1 v2 v3 v4 v5:Value) :
 w.grownBy ((((((w.setCell ⟨b,2,none⟩ v0).setCell ⟨b,3,none⟩ v1).setCell ⟨b,4,none⟩ v2).setCell ⟨b,5,none⟩ v3).setCell ⟨b,6,none⟩ v4).setCell ⟨b,7,none⟩ v5) (some b):=
 aP (aP (aP (aP (aP (cu _ _ _ _) (cu _ _ _ _)) (cu _ _ _ _)) (cu _ _ _ _)) (cu _ _ _ _)) (cu _ _ _ _)
end
theorem GQ (w:World) (b:Nat) (k:Int) :
 Calls Tryz.prog 84 #[lq b,.int .i64 k] w fun e w'=>e=.returned (.bool (decide (0≤k∧k<3)))∧w'=w:=by
 by_cases h1:0≤k
 ·by_cases h2:k<3
  ·rw [decide_eq_true (show 0≤k∧k<3 from ⟨h1,h2⟩)]
   go_enter Tryz.func84,Tryz.ntmps84
   go_wp2
   go_ret
   exact ⟨rfl,rfl⟩
  ·rw [decide_eq_false (show ¬(0≤k∧k<3) by omega)]
   go_enter Tryz.func84,Tryz.ntmps84
   go_wp2
   go_ret
   exact ⟨rfl,rfl⟩
 ·rw [decide_eq_false (show ¬(0≤k∧k<3) by omega)]
  go_enter Tryz.func84,Tryz.ntmps84
  go_wp2
  go_ret
  exact ⟨rfl,rfl⟩
theorem qJ (w:World) (b:Nat) (k:Int) (h:0≤k∧k<3):Calls Tryz.prog 84 #[lq b,.int .i64 k] w fun e w'=>e=.returned (.bool true)∧w'=w:=by
 have:=GQ w b k;rw [decide_eq_true h] at this;exact this
theorem Ux (w:World) (b:Nat) (k:Int) (h:¬(0≤k∧k<3)):Calls Tryz.prog 84 #[lq b,.int .i64 k] w fun e w'=>e=.returned (.bool false)∧w'=w:=by
 have:=GQ w b k;rw [decide_eq_false h] at this;exact this
def qd (k n:Int):Int:=if ¬(0≤k∧k<3) then 1 else if ¬(0≤n∧n≤1000000) then 2 else 0
def yG (M:Nat→Int) (k n:Int):Nat→Int:=if qd k n=0 then put M k.toNat n else M
section
variable {w w':World}{b s t:Nat}{U M:Nat→Int}{a:Int}
theorem Hd.limit (h:Hd w b s t U M a) (k n:Int) :
 Calls Tryz.prog 39 #[lq b,.int .i64 k,.int .i64 n] w fun e w'=>e=.returned (aI (qd k n))∧Hd w' b s t U (yG M k n) a∧w.grownBy w' (some b):=by
 have gr:w.grownBy w (some b):=⟨rfl,rfl,rfl,Nat.le_refl _,fun _ _ _=>rfl⟩
 by_cases hk:0≤k∧k<3
 ·by_cases hn:0≤n∧n≤1000000
  ·have e0:qd k n=0:=by unfold qd;rw [if_neg (not_not_intro hk),if_neg (not_not_intro hn)]
   have e1:yG M k n=put M k.toNat n:=if_pos e0
   rw [e0,e1,aB]
   have c:=h.may k.toNat (by omega)
   have f:=h.free (5+k.toNat)
   have F:=kU (h.uM k.toNat (by omega) n)
   have G:=kU (cu w b (5+k.toNat) (.int .i64 n))
   obtain ⟨h1,h2⟩:=hk
   obtain ⟨h3,h4⟩:=hn
   go_enter Tryz.func39,Tryz.ntmps39
   go_wp2_with (go_at_call 84;refine (qJ _ b k ⟨h1,h2⟩).mono ?_;rintro e w' ⟨rfl,rfl⟩)
   go_ret
   exact ⟨rfl,F.out,G.out⟩
  ·have e0:qd k n=2:=by unfold qd;rw [if_neg (not_not_intro hk),if_pos hn]
   have e1:yG M k n=M:=by unfold yG;rw [e0];rfl
   rw [e0,e1,ax (by omega)]
   by_cases h1:n<0
   ·clear e0 e1 hn
    go_enter Tryz.func39,Tryz.ntmps39
    go_wp2_with (go_at_call 84;refine (qJ _ b k hk).mono ?_;rintro e w' ⟨rfl,rfl⟩)
    go_ret
    exact ⟨rfl,h,gr⟩
   ·have h2:1000000<n:=by omega
    go_enter Tryz.func39,Tryz.ntmps39
    go_wp2_with (go_at_call 84;refine (qJ _ b k hk).mono ?_;rintro e w' ⟨rfl,rfl⟩)
    go_ret
    exact ⟨rfl,h,gr⟩
 ·have e0:qd k n=1:=by unfold qd;rw [if_pos hk]
  have e1:yG M k n=M:=by unfold yG;rw [e0];rfl
  rw [e0,e1,ax (by omega)]
  go_enter Tryz.func39,Tryz.ntmps39
  go_wp2_with (go_at_call 84;refine (Ux _ b k hk).mono ?_;rintro e w' ⟨rfl,rfl⟩)
  go_ret
  exact ⟨rfl,h,gr⟩
theorem Hd.used (h:Hd w b s t U M a) (k:Int) (h1:0≤k) (h2:k<3) :
 Calls Tryz.prog 222 #[lq b,.int .i64 k] w fun e w'=>e=.returned (.int .i64 (U k.toNat))∧w'=w:=by
 have c:=h.has k.toNat (by omega)
 go_enter Tryz.func222,Tryz.ntmps222
 go_wp2_with (go_at_call 84;refine (qJ _ b k ⟨h1,h2⟩).mono ?_;rintro e w' ⟨rfl,rfl⟩)
 go_ret
 exact ⟨rfl,rfl⟩
theorem Hd.most (h:Hd w b s t U M a) (k:Int) (h1:0≤k) (h2:k<3) :
 Calls Tryz.prog 188 #[lq b,.int .i64 k] w fun e w'=>e=.returned (.int .i64 (M k.toNat))∧w'=w:=by
 have c:=h.may k.toNat (by omega)
 go_enter Tryz.func188,Tryz.ntmps188
 go_wp2_with (go_at_call 84;refine (qJ _ b k ⟨h1,h2⟩).mono ?_;rintro e w' ⟨rfl,rfl⟩)
 go_ret
 exact ⟨rfl,rfl⟩
end
end Go.Proofs.YtippochapiolpaaGreatDoor

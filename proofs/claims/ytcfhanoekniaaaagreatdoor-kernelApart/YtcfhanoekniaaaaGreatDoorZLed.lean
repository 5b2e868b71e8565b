/- A ledger inside a process's holding: package acct's Limit, Used, Most and Charge there, and holding.charge, by their Go text. -/
import Derived.Test.YtcfhanoekniaaaaGreatDoorCharge
import Derived.Test.YtcfhanoekniaaaaGreatDoorSKeys
import Derived.Test.YtcfhanoekniaaaaGreatDoorOVic3
set_option maxHeartbeats 800000
namespace Go.Proofs.YtcfhanoekniaaaaGreatDoor
open Go.RowKit
abbrev lq (b:Nat):Value:=.pointer (some ⟨b,2,none⟩)
abbrev hcs (s t:Nat) (U M:Nat→Int) (a:Int):Array Value:=#[wp s,wp t,.int .i64 (U 0),.int .i64 (U 1),.int .i64 (U 2),.int .i64 (M 0),.int .i64 (M 1),.int .i64 (M 2),.int .i64 a]
def Hd (w:World) (b s t:Nat) (U M:Nat→Int) (a:Int):Prop:=w.heap[b]? = some (.cells (hcs s t U M a) 115)
section
variable {w w':World}{b s t:Nat}{U M:Nat→Int}{a:Int}
theorem Hd.keep (h:Hd w b s t U M a) (hb:w'.heap[b]? = w.heap[b]?):Hd w' b s t U M a:=hb.trans h
theorem Hd.lt (h:Hd w b s t U M a):b<w.heap.size:=by
 rcases Nat.lt_or_ge b w.heap.size with z|z
 ·exact z
 ·unfold Hd at h;rw [Array.getElem?_eq_none (by omega)] at h;cases h
theorem Hd.below (h:Hd w b s t U M a) (hb:Below w.heap.size w w'):Hd w' b s t U M a:=h.keep (hb.block b h.lt)
theorem Hd.at (h:Hd w b s t U M a) (o:Nat):w.cell? ⟨b,o,none⟩=(hcs s t U M a)[o]? := by rw [cell_of_row w b o _ _ _ h]
theorem Hd.free (h:Hd w b s t U M a) (o:Nat):w.frozen? ⟨b,o,none⟩=false:=by unfold Hd at h;simp [World.frozen?,h]
theorem Hd.has (h:Hd w b s t U M a) (k:Nat) (hk:k<3):w.cell? ⟨b,2+k,none⟩=some (.int .i64 (U k)):=by
 rw [h.at]
 match k,hk with
 |0,_|1,_|2,_=>rfl
theorem Hd.may (h:Hd w b s t U M a) (k:Nat) (hk:k<3):w.cell? ⟨b,5+k,none⟩=some (.int .i64 (M k)):=by
 rw [h.at]
 match k,hk with
 |0,_|1,_|2,_=>rfl
theorem Hd.rE (h:Hd w b s t U M a) (k:Nat) (hk:k<3) (v:Int):Hd (w.setCell ⟨b,5+k,none⟩ (.int .i64 v)) b s t U (put M k v) a:=by
 unfold Hd
 rw [bH w b (5+k) _ _ _ _ h]
 match k,hk with
 |0,_|1,_|2,_=>rfl
theorem Hd.Sz (h:Hd w b s t U M a) (v:Int):Hd (w.setCell ⟨b,8,none⟩ (.int .i64 v)) b s t U M v:=by
 unfold Hd
 rw [bH w b 8 _ _ _ _ h]
 rfl
theorem Hd.IV (h:Hd w b s t U M a) (U' M':Nat→Int):Hd ((((((w.setCell ⟨b,2,none⟩ (.int .i64 (U' 0))).setCell ⟨b,3,none⟩ (.int .i64 (U' 1))).setCell ⟨b,4,none⟩ (.int .i64 (U' 2))).setCell ⟨b,5,none⟩ (.int .i64 (M' 0))).setCell ⟨b,6,none⟩ (.int .i64 (M' 1))).setCell ⟨b,7,none⟩ (.int .i64 (M' 2))) b s t U' M' a:=by
 unfold Hd
 exact bH _ b 7 _ _ _ _ (bH _ b 6 _ _ _ _ (bH _ b 5 _ _ _ _ (bH _ b 4 _ _ _ _ (bH _ b 3 _ _ _ _ (bH _ b 2 _ _ _ _ h)))))
theorem zL (w:World) (b:Nat) (v0 v1 v2 v3 v4 v5:Value) :
 w.grownBy ((((((w.setCell ⟨b,2,none⟩ v0).setCell ⟨b,3,none⟩ v1).setCell ⟨b,4,none⟩ v2).setCell ⟨b,5,none⟩ v3).setCell ⟨b,6,none⟩ v4).setCell ⟨b,7,none⟩ v5) (some b):=
 aM (aM (aM (aM (aM (bL _ _ _ _) (bL _ _ _ _)) (bL _ _ _ _)) (bL _ _ _ _)) (bL _ _ _ _)) (bL _ _ _ _)
end
theorem Dz (w:World) (b:Nat) (k:Int) :
 Calls Tryz.prog 148 #[lq b,.int .i64 k] w fun e w'=>e=.returned (.bool (decide (0≤k∧k<3)))∧w'=w:=by
 by_cases h1:0≤k
 ·by_cases h2:k<3
  ·rw [decide_eq_true (show 0≤k∧k<3 from ⟨h1,h2⟩)]
   go_enter Tryz.func148,Tryz.ntmps148
   go_wp2
   go_ret
   exact ⟨rfl,rfl⟩
  ·rw [decide_eq_false (show ¬(0≤k∧k<3) by omega)]
   go_enter Tryz.func148,Tryz.ntmps148
   go_wp2
   go_ret
   exact ⟨rfl,rfl⟩
 ·rw [decide_eq_false (show ¬(0≤k∧k<3) by omega)]
  go_enter Tryz.func148,Tryz.ntmps148
  go_wp2
  go_ret
  exact ⟨rfl,rfl⟩
theorem oI (w:World) (b:Nat) (k:Int) (h:0≤k∧k<3):Calls Tryz.prog 148 #[lq b,.int .i64 k] w fun e w'=>e=.returned (.bool true)∧w'=w:=by
 have:=Dz w b k;rw [decide_eq_true h] at this;exact this
theorem Ox (w:World) (b:Nat) (k:Int) (h:¬(0≤k∧k<3)):Calls Tryz.prog 148 #[lq b,.int .i64 k] w fun e w'=>e=.returned (.bool false)∧w'=w:=by
 have:=Dz w b k;rw [decide_eq_false h] at this;exact this
def qm (k n:Int):Int:=if ¬(0≤k∧k<3) then 1 else if ¬(0≤n∧n≤1000000) then 2 else 0
def vO (M:Nat→Int) (k n:Int):Nat→Int:=if qm k n=0 then put M k.toNat n else M
section
variable {w w':World}{b s t:Nat}{U M:Nat→Int}{a:Int}
theorem Hd.limit (h:Hd w b s t U M a) (k n:Int) :
 Calls Tryz.prog 120 #[lq b,.int .i64 k,.int .i64 n] w fun e w'=>e=.returned (aH (qm k n))∧Hd w' b s t U (vO M k n) a∧w.grownBy w' (some b):=by
 have gr:w.grownBy w (some b):=⟨rfl,rfl,rfl,Nat.le_refl _,fun _ _ _=>rfl⟩
 by_cases hk:0≤k∧k<3
 ·by_cases hn:0≤n∧n≤1000000
  ·have e0:qm k n=0:=by unfold qm;rw [if_neg (not_not_intro hk),if_neg (not_not_intro hn)]
   have e1:vO M k n=put M k.toNat n:=if_pos e0
   rw [e0,e1,aC]
   have c:=h.may k.toNat (by omega)
   have f:=h.free (5+k.toNat)
   have F:=jB (h.rE k.toNat (by omega) n)
   have G:=jB (bL w b (5+k.toNat) (.int .i64 n))
   obtain ⟨h1,h2⟩:=hk
   obtain ⟨h3,h4⟩:=hn
   clear e0 e1 h gr
   go_enter Tryz.func120,Tryz.ntmps120
   go_wp2_with (go_at_call 148;refine (oI _ b k ⟨h1,h2⟩).mono ?_;rintro e w' ⟨rfl,rfl⟩)
   go_ret
   exact ⟨rfl,F.out,G.out⟩
  ·have e0:qm k n=2:=by unfold qm;rw [if_neg (not_not_intro hk),if_pos hn]
   have e1:vO M k n=M:=by unfold vO;rw [e0];rfl
   rw [e0,e1,az (by omega)]
   by_cases h1:n<0
   ·clear e0 e1 hn
    go_enter Tryz.func120,Tryz.ntmps120
    go_wp2_with (go_at_call 148;refine (oI _ b k hk).mono ?_;rintro e w' ⟨rfl,rfl⟩)
    go_ret
    exact ⟨rfl,h,gr⟩
   ·have h2:1000000<n:=by omega
    clear e0 e1 hn
    go_enter Tryz.func120,Tryz.ntmps120
    go_wp2_with (go_at_call 148;refine (oI _ b k hk).mono ?_;rintro e w' ⟨rfl,rfl⟩)
    go_ret
    exact ⟨rfl,h,gr⟩
 ·have e0:qm k n=1:=by unfold qm;rw [if_pos hk]
  have e1:vO M k n=M:=by unfold vO;rw [e0];rfl
  rw [e0,e1,az (by omega)]
  go_enter Tryz.func120,Tryz.ntmps120
  go_wp2_with (go_at_call 148;refine (Ox _ b k hk).mono ?_;rintro e w' ⟨rfl,rfl⟩)
  go_ret
  exact ⟨rfl,h,gr⟩
theorem Hd.used (h:Hd w b s t U M a) (k:Int) (h1:0≤k) (h2:k<3) :
 Calls Tryz.prog 143 #[lq b,.int .i64 k] w fun e w'=>e=.returned (.int .i64 (U k.toNat))∧w'=w:=by
 have c:=h.has k.toNat (by omega)
 go_enter Tryz.func143,Tryz.ntmps143
 go_wp2_with (go_at_call 148;refine (oI _ b k ⟨h1,h2⟩).mono ?_;rintro e w' ⟨rfl,rfl⟩)
 go_ret
 exact ⟨rfl,rfl⟩
theorem Hd.most (h:Hd w b s t U M a) (k:Int) (h1:0≤k) (h2:k<3) :
 Calls Tryz.prog 60 #[lq b,.int .i64 k] w fun e w'=>e=.returned (.int .i64 (M k.toNat))∧w'=w:=by
 have c:=h.may k.toNat (by omega)
 go_enter Tryz.func60,Tryz.ntmps60
 go_wp2_with (go_at_call 148;refine (oI _ b k ⟨h1,h2⟩).mono ?_;rintro e w' ⟨rfl,rfl⟩)
 go_ret
 exact ⟨rfl,rfl⟩
end
end Go.Proofs.YtcfhanoekniaaaaGreatDoor

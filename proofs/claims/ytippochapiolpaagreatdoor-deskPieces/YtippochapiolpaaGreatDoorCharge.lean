/- What Charge of package acct does to a world, by its Go text. -/
import Derived.Test.YtippochapiolpaaGreatDoorAdd
import Derived.Test.YtippochapiolpaaGreatDoorAtV
import Derived.Deep.LoopGhost
import Derived.Deep.DeepCutAuto
import Derived.Deep.Light
set_option maxHeartbeats 2000000
set_option maxRecDepth 100000
namespace Go.Proofs.YtippochapiolpaaGreatDoor
open Go.RowKit
def AtB (w:World) (x:Nat) (c p:Int):Prop:=w.heap[x]? = some (.cells #[.int .i64 c,.int .i64 p] 354)
theorem AtB.is {w:World}{x:Nat}{c p:Int}(h:AtB w x c p):Nu w x c p:=by
 unfold AtB at h
 exact ⟨by simp [World.cell?,h],by simp [World.cell?,h]⟩
def acY (w:World) (ad:Option Addr) (len:Nat) (q:Nat→Want):Prop:=
 len=0∨∃blk off,ad=some ⟨blk,off,none⟩∧blk<w.heap.size∧∀i,i<len→
  w.cell? ⟨blk,off+i*2,none⟩=some (.int .i64 (q i).kind)∧w.cell? ⟨blk,off+i*2+1,none⟩=some (.int .i64 (q i).n)
theorem jG {w0 w w':World}{t:Nat}(h:Below w0.heap.size w0 w) (g:w.grownBy w' (some t)) (ht:w0.heap.size≤t):Below w0.heap.size w0 w':=
 ⟨g.os.trans h.os,g.tape.trans h.tape,g.output.trans h.output,Nat.le_trans h.size g.size,fun i hi=>(g.block i (Nat.lt_of_lt_of_le hi h.size) (fun e=>by cases e;omega)).trans (h.block i hi)⟩
def six (U M:Nat→Int):Array Value:=#[.int .i64 (U 0),.int .i64 (U 1),.int .i64 (U 2),.int .i64 (M 0),.int .i64 (M 1),.int .i64 (M 2)]
theorem MH (w:World) (U M:Nat→Int) (t:TypeId):oV (w.alloc (.cells (six U M) t)) w.heap.size U M:=by
 refine ⟨fun k hk=>?_,fun k hk=>?_,fun k _=>?_⟩
 ·match k,hk with
  |0,_|1,_|2,_=>simp [six]
 ·match k,hk with
  |0,_|1,_|2,_=>simp [six]
 ·simp
theorem oV.like {w:World}{b:Nat}{U M U' M':Nat→Int}(l:oV w b U M) (h:∀k,k<3→U k=U' k) (h':∀k,k<3→M k=M' k):oV w b U' M':=
 ⟨fun k hk=>by rw [←h k hk];exact l.has k hk,fun k hk=>by rw [←h' k hk];exact l.may k hk,l.live⟩
theorem Pk {w:World}{b:Nat}{U0 M0:Nat→Int}(l:oV w b U0 M0) (U M:Nat→Int) :
 oV ((((((w.setCell ⟨b,0,none⟩ (.int .i64 (U 0))).setCell ⟨b,1,none⟩ (.int .i64 (U 1))).setCell ⟨b,2,none⟩ (.int .i64 (U 2))).setCell ⟨b,3,none⟩ (.int .i64 (M 0))).setCell ⟨b,4,none⟩ (.int .i64 (M 1))).setCell ⟨b,5,none⟩ (.int .i64 (M 2))) b U M:=by
 have h:=(((((l.yu 0 (by omega) (U 0)).yu 1 (by omega) (U 1)).yu 2 (by omega) (U 2)).uM 0 (by omega) (M 0)).uM 1 (by omega) (M 1)).uM 2 (by omega) (M 2)
 refine oV.like h (fun k hk=>?_) (fun k hk=>?_)
 ·match k,hk with
  |0,_|1,_|2,_=>simp [put]
 ·match k,hk with
  |0,_|1,_|2,_=>simp [put]
theorem Iw (w:World) (b:Nat) (v0 v1 v2 v3 v4 v5:Value) :
 w.grownBy ((((((w.setCell ⟨b,0,none⟩ v0).setCell ⟨b,1,none⟩ v1).setCell ⟨b,2,none⟩ v2).setCell ⟨b,3,none⟩ v3).setCell ⟨b,4,none⟩ v4).setCell ⟨b,5,none⟩ v5) (some b):=
 aP (aP (aP (aP (aP (cu _ _ _ _) (cu _ _ _ _)) (cu _ _ _ _)) (cu _ _ _ _)) (cu _ _ _ _)) (cu _ _ _ _)
theorem zi {w:World}{b:Nat}{U M:Nat→Int}(l:oV w b U M) (hU:Fit U) (hM:Fit M) (k n:Int) (h:why U M k n≠0) :
 Calls Tryz.prog 327 #[lp b,ask k n] w fun e w'=>e=.returned (.int .i64 (why U M k n))∧Below w.heap.size w w':=by
 rcases aaa h with ⟨h1,e⟩|⟨h1,h2,e⟩|⟨h1,h2,h3,h4,e⟩|⟨h1,h2,h3,h4,e⟩|⟨h1,h2,h3,h4,h5,e⟩
 ·rw [e];exact YE w b k n h1
 ·rw [e];exact Qv w b k n h1 h2
 ·rw [e];exact Qw l hU hM k n h1.1 h1.2 h2.1 h2.2 h3 h4
 ·rw [e];exact Qu l hU k n h1.1 h1.2 h2.1 h2.2 h3 h4
 ·have:=(hU k.toNat).1
  exfalso;omega
theorem Df {w:World}{b:Nat}{U M:Nat→Int}(l:oV w b U M) (hU:Fit U) (hM:Fit M) (ad:Option Addr) (len cap:Nat) (q:Nat→Want) (hq:acY w ad len q) (hpos:0<len) (hl:len≤1000) :
 Calls Tryz.prog 291 #[lp b,.slice ad len cap] w fun e w'=>
  (uw U M q len∧e=.returned .nilIface∧oV w' b (upon U q len) M∧w.grownBy w' (some b))∨
  ∃p,p<len∧uw U M q p∧fault U M q p≠0∧∃x,e=.returned (atv x)∧w.heap.size≤x∧AtB w' x (fault U M q p) p∧Below w.heap.size w w':=by
 have hne:((len:Int) == 0)=false:=by simp;omega
 have hl':(len:Int)≤1000:=by omega
 have u0:=l.has 0 (by omega)
 have u1:=l.has 1 (by omega)
 have u2:=l.has 2 (by omega)
 have m0:w.cell? ⟨b,3,none⟩=some (.int .i64 (M 0)):=l.may 0 (by omega)
 have m1:w.cell? ⟨b,4,none⟩=some (.int .i64 (M 1)):=l.may 1 (by omega)
 have m2:w.cell? ⟨b,5,none⟩=some (.int .i64 (M 2)):=l.may 2 (by omega)
 go_enter Tryz.func291,Tryz.ntmps291
 go_wp2_with fail
 have L0:oV (w.alloc (.cells #[.int .i64 (U 0),.int .i64 (U 1),.int .i64 (U 2),.int .i64 (M 0),.int .i64 (M 1),.int .i64 (M 2)] 119)) w.heap.size U M:=MH w U M 119
 have B0:Below w.heap.size w (w.alloc (.cells #[.int .i64 (U 0),.int .i64 (U 1),.int .i64 (U 2),.int .i64 (M 0),.int .i64 (M 1),.int .i64 (M 2)] 119)):=(Below.refl _ _).alloc (Nat.le_refl _) _
 go_loopg [22] len (fun k s22 wr=>∃j:Nat,j+k=len∧s22=.int .i64 j∧uw U M q j∧oV wr w.heap.size (upon U q j) M∧Below w.heap.size w wr)
 case atStart=>exact ⟨0,by omega,rfl,fun _ h=>absurd h (Nat.not_lt_zero _),L0,B0⟩
 case round=>
  obtain ⟨j,hj,rfl,hF,L,B⟩:=hrel
  by_cases hlt:(j:Int)<(len:Int)
  ·rcases hq with h0|⟨blk,off,rfl,hbl,hqq⟩
   ·exfalso;omega
   obtain ⟨c0,c1⟩:=hqq j (by omega)
   have d0:wr.cell? ⟨blk,off+j*2,none⟩=some (.int .i64 (q j).kind):=by rw [B.cell (p:=⟨blk,off+j*2,none⟩) hbl];exact c0
   have d1:wr.cell? ⟨blk,off+j*2+1,none⟩=some (.int .i64 (q j).n):=by rw [B.cell (p:=⟨blk,off+j*2+1,none⟩) hbl];exact c1
   have hfit:=uw.fit hU hM hF
   have L1:=L.more (.cells #[.int .i64 (q j).kind,.int .i64 (q j).n] 328)
   have B1:Below w.heap.size w (wr.alloc (.cells #[.int .i64 (q j).kind,.int .i64 (q j).n] 328)):=B.alloc (by have:=B.size;omega) _
   have FI:=kU hF
   by_cases hf:fault U M q j=0
   ·have hA:=zh L1 hfit hM _ _ hf
    go_wp2_with fail
    refine hA.mono ?_
    rintro e w2 ⟨rfl,L2,g2⟩
    go_wp2_with fail
    go_roundg (gk-1)
    case measure=>omega
    case rel=>exact ⟨j+1,by omega,by go_num,FI.out.next hf,L2,jG B1 g2 (Nat.le_refl _)⟩
   ·have hA:=zi L1 hfit hM _ _ hf
    go_wp2_with fail
    refine hA.mono ?_
    rintro e w2 ⟨rfl,b2⟩
    have B2:Below w.heap.size w w2:=B1.trans (b2.mono B1.size)
    have hc:(why (upon U q j) M (q j).kind (q j).n != 0)=true:=by simpa [fault] using hf
    have HF:=kU hf
    go_wp2_with fail
    go_ret
    refine .inr ⟨j,by omega,FI.out,HF.out,w2.heap.size,rfl,B2.size,?_,B2.alloc B2.size _⟩
    show (w2.heap.push _)[w2.heap.size]? = _
    rw [Array.getElem?_push,if_pos rfl]
    rfl
  ·obtain rfl:j=len:=by omega
   have t0:=L.has 0 (by omega)
   have t1:=L.has 1 (by omega)
   have t2:=L.has 2 (by omega)
   have t3:wr.cell? ⟨w.heap.size,3,none⟩=some (.int .i64 (M 0)):=L.may 0 (by omega)
   have t4:wr.cell? ⟨w.heap.size,4,none⟩=some (.int .i64 (M 1)):=L.may 1 (by omega)
   have t5:wr.cell? ⟨w.heap.size,5,none⟩=some (.int .i64 (M 2)):=L.may 2 (by omega)
   have lb:oV wr b U M:=l.keep (B.block b l.lt)
   have s0:=lb.has 0 (by omega)
   have s1:=lb.has 1 (by omega)
   have s2:=lb.has 2 (by omega)
   have s3:wr.cell? ⟨b,3,none⟩=some (.int .i64 (M 0)):=lb.may 0 (by omega)
   have s4:wr.cell? ⟨b,4,none⟩=some (.int .i64 (M 1)):=lb.may 1 (by omega)
   have s5:wr.cell? ⟨b,5,none⟩=some (.int .i64 (M 2)):=lb.may 2 (by omega)
   have f0:=lb.live 0 (by omega)
   have f1:=lb.live 1 (by omega)
   have f2:=lb.live 2 (by omega)
   have f3:=lb.live 3 (by omega)
   have f4:=lb.live 4 (by omega)
   have f5:=lb.live 5 (by omega)
   have fin:=kU (Pk lb (upon U q j) M)
   have gr:=kU (aP (show w.grownBy wr (some b) from ⟨B.os,B.tape,B.output,B.size,fun i hi _=>B.block i hi⟩) (Iw wr b (.int .i64 (upon U q j 0)) (.int .i64 (upon U q j 1)) (.int .i64 (upon U q j 2)) (.int .i64 (M 0)) (.int .i64 (M 1)) (.int .i64 (M 2))))
   have FI:=kU hF
   clear lb L B l hF
   go_wp2_with fail
   go_ret
   exact .inl ⟨FI.out,rfl,fin.out,gr.out⟩
end Go.Proofs.YtippochapiolpaaGreatDoor

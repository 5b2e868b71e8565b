/- The desk's words: numbers that are told, what is wrong thrown. -/
import Derived.Test.YtippochapiolpaaGreatDoorHBld
import Derived.Deep.LoopGhost
import Derived.Deep.Light
import Derived.Deep.DeepCutAuto
import Derived.WalkLawsBesides
set_option maxHeartbeats 4000000
set_option maxRecDepth 100000
namespace Go.Proofs.YtippochapiolpaaGreatDoor
open Go.RowKit
theorem nW (a b:List UInt8):(⟨a.toArray⟩:ByteArray) ++ ⟨b.toArray⟩=⟨(a ++ b).toArray⟩:=by
 apply ByteArray.ext
 simp
def dH (n:Int):Prop:=-9223372036854775808≤n∧n≤9223372036854775807
def pV (w:World) (ad:Option Addr) (L:List Int):Prop:=
 L=[]∨∃blk off,ad=some ⟨blk,off,none⟩∧blk<w.heap.size∧∀i (hi:i<L.length),w.cell? ⟨blk,off+i,none⟩=some (.int .i64 L[i])
theorem pV.below {w w':World}{ad:Option Addr}{L:List Int}(h:pV w ad L) (hb:Below w.heap.size w w'):pV w' ad L:=by
 rcases h with h|⟨blk,off,e,hl,hc⟩
 ·exact .inl h
 ·exact .inr ⟨blk,off,e,Nat.lt_of_lt_of_le hl hb.size,fun i hi=>by rw [hb.cell (p:=⟨blk,off+i,none⟩) hl];exact hc i hi⟩
def aQ (L:List Int):List UInt8:=L.flatMap fun n=>32 :: Lib.itoa n
theorem KR {L:List Int}{i:Nat}(h:i<L.length):aQ (L.take (i+1))=(aQ (L.take i) ++ [32]) ++ Lib.itoa L[i]:=by
 unfold aQ
 rw [List.take_succ_eq_append_getElem h,List.flatMap_append]
 simp
theorem iG {L:List Int}(h:∀n∈L,dH n):(aQ L).length≤L.length*22:=by
 induction L with
 |nil=>simp [aQ]
 |cons n L ih=>
  have h1:=Lib.itoa_length_le n (h n List.mem_cons_self).1 (h n List.mem_cons_self).2
  have h2:=ih (fun x hx=>h x (List.mem_cons_of_mem _ hx))
  have h3:aQ (n :: L)=(32 :: Lib.itoa n) ++ aQ L:=by simp [aQ]
  rw [h3]
  simp only [List.length_append,List.length_cons]
  omega
theorem MR (w:World) (hP:Pow w) (ad:Option Addr) (L:List Int) (cap:Nat) (hA:pV w ad L) (hL:L.length≤1000) (hR:∀n∈L,dH n) :
 Calls Tryz.prog 15 #[.slice ad L.length cap] w fun e w'=>e=.returned (tx (aQ L))∧Below w.heap.size w w':=by
 have HP:Aside (∀V,Below w.heap.size w V→Pow V∧pV V ad L):=fun V b=>⟨hP.below b,hA.below b⟩
 have HR:Aside (∀n∈L,dH n):=hR
 clear hP hA hR
 have b0:Below w.heap.size w (w.alloc (.cells #[.pointer none,.slice none 0 0] 36)):=(Below.refl _ _).alloc (Nat.le_refl _) _
 have h0:=BD.new (n0:=w.heap.size) w (Nat.le_refl _)
 obtain ⟨b,hb⟩:∃b,w.heap.size=b:=⟨_,rfl⟩
 go_enter Tryz.func15,Tryz.ntmps15
 go_upto_region 2 with fail
 generalize w.alloc (.cells #[.pointer none,.slice none 0 0] 36)=wA at *
 rw [hb] at h0 b0 HP
 go_wp2_with fail
 go_loopg [8] L.length (fun mm s8 wr=>∃i g:Nat,i+mm=L.length∧s8=.int .i64 (i:Int)∧BD b wr b g (aQ (L.take i))∧Below b w wr)
 case atStart=>exact ⟨0,b,by omega,rfl,h0,b0⟩
 case round=>
  obtain ⟨i,g,hi,rfl,hB,bw⟩:=hrel
  by_cases hlt:(i:Int)<(L.length:Int)
  ·have aG:i<L.length:=by omega
   have hx:=HR.out L[i] (List.getElem_mem aG)
   have hA:=(HP.out wr bw).2
   rcases hA with h9|⟨blk,off,rfl,hbl,hc⟩
   ·rw [h9] at aG;cases aG
   have c0:=hc i aG
   clear hc
   have hlen:(aQ (L.take i)).length≤22000:=by
    have:=iG (L:=L.take i) (fun n hn=>HR.out n (List.mem_of_mem_take hn))
    rw [List.length_take] at this
    omega
   have hT:=KR aG
   have HT:Aside _:=hT
   clear hT
   generalize aQ (L.take i)=T at *
   generalize L[i]=x at *
   have hW:=hB.BQ 32 (by omega)
   have hI:=uZ x hx.1 hx.2
   have hil:=Lib.itoa_length_le x hx.1 hx.2
   have hge:b≤wr.heap.size:=by have:=bw.size;omega
   go_wp2_with (first
    |(go_at_call 11;refine hW.mono ?_;rintro e w1 ⟨g1,rfl,h1,st1⟩;have b1:=Stp.newer bw st1 hB.ge hge;have afK:b≤w1.heap.size:=Nat.le_trans hge st1.wt.size;have hI1:=hI w1 (HP.out w1 b1).1)
    |(go_at_call 13;refine hI1.mono ?_;rintro e w2 ⟨rfl,b2⟩;have h2:=h1.below b2;have hW2:=h2.write (Lib.itoa x) (by simp;omega))
    |(go_at_call 9;refine hW2.mono ?_;rintro e w3 ⟨u,g3,rfl,h3,wW⟩))
   go_roundg (gk-1)
   case measure=>omega
   case rel=>
    refine ⟨i+1,g3,by omega,by go_num,?_,?_⟩
    ·rw [HT.out];exact h3
    ·exact Stp.newer (b1.trans (b2.mono afK)) wW h2.ge (by have:=b2.size;omega)
  ·have aG:i=L.length:=by omega
   rw [aG,List.take_length] at hB
   have hS:=hB.text (by have:=bw.size;omega)
   clear aG
   go_wp2_with (go_at_call 12;refine hS.mono ?_;rintro e w1 ⟨rfl,b1⟩)
   go_ret
   exact ⟨rfl,by rw [hb];exact bw.trans b1⟩
end Go.Proofs.YtippochapiolpaaGreatDoor

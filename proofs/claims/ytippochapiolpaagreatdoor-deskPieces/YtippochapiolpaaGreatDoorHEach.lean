/- Ours. -/
import Derived.Test.YtippochapiolpaaGreatDoorHBld
import Derived.Deep.Light
import Derived.Deep.DeepCutAuto
import Derived.WalkLawsBesides
set_option maxHeartbeats 4000000
set_option maxRecDepth 100000
namespace Go.Proofs.YtippochapiolpaaGreatDoor
open Go.RowKit
theorem nW(a b:List UInt8):(⟨a.toArray⟩:ByteArray)++⟨b.toArray⟩=⟨(a++b).toArray⟩:=by
 apply ByteArray.ext
 simp
def dF(n:Int):Prop:=-9223372036854775808<=n/\n<=9223372036854775807
def pV(w:World)(ad:Option Addr)(L:List Int):Prop:=
 L=[]\/∃blk off,ad=some ⟨blk,off,none⟩/\blk<w.heap.size/\∀i (hi:i<L.length),w.cell? ⟨blk,off+i,none⟩=some (.int .i64 L[i])
theorem pV.below{w w':World}{f:Option Addr}{L:List Int}(h:pV w f L)(d:Below w.heap.size w w'):pV w' f L:=by
 rcases h with h|⟨b,a,e,c,j⟩
 ·exact .inl h
 ·exact .inr ⟨b,a,e,Nat.lt_of_lt_of_le c d.size,fun i g=>by rw[d.cell (p:=⟨b,a+i,none⟩) c];exact j i g⟩
def aQ(L:List Int):List UInt8:=L.flatMap fun n=>32::Lib.itoa n
theorem KR{L:List Int}{i:Nat}(h:i<L.length):aQ (L.take (i+1))=(aQ (L.take i)++[32])++Lib.itoa L[i]:=by
 unfold aQ;rw[List.take_succ_eq_append_getElem h,List.flatMap_append];simp
theorem iF{L:List Int}(h:∀n∈L,dF n):(aQ L).length<=L.length*22:=by
 induction L with
 |nil=>simp[aQ]
 |cons n L ih=>
  have d:=Lib.itoa_length_le n (h n List.mem_cons_self).1 (h n List.mem_cons_self).2;have c:=ih (fun x a=>h x (List.mem_cons_of_mem _ a));have b:aQ (n::L)=(32::Lib.itoa n)++aQ L:=by simp[aQ]
  rw[b];simp only[List.length_append,List.length_cons];omega
theorem MQ(w:World)(C:Pow w)(s:Option Addr)(L:List Int)(cap:Nat)(l:pV w s L)(hL:L.length<=1000)(B:∀n∈L,dF n):Calls Tryz.prog 15 #[.slice s L.length cap] w fun e I=>e=.returned (tx (aQ L))/\Below w.heap.size w I:=by
 have t:Aside (∀V,Below w.heap.size w V->Pow V/\pV V s L):=fun V b=>⟨C.below b,l.below b⟩;have G:Aside (∀n∈L,dF n):=B;clear C l B;have F:Below w.heap.size w (w.alloc (.cells #[.pointer none,.slice none 0 0] 36)):=(Below.refl _ _).alloc (Nat.le_refl _) _;have E:=BD.new (n0:=w.heap.size) w (Nat.le_refl _);obtain⟨b,z⟩:∃b,w.heap.size=b:=⟨_,rfl⟩;go_enter Tryz.func15,Tryz.ntmps15
 go_upto_region 2 with fail
 generalize w.alloc (.cells #[.pointer none,.slice none 0 0] 36)=wA at *;rw[z] at E F t;go_wp2_with fail
 go_loopg [8] L.length (fun K s8 wr=>∃i g:Nat,i+K=L.length/\s8=.int .i64 (i:Int)/\BD b wr b g (aQ (L.take i))/\Below b w wr)
 case atStart=>exact⟨0,b,by omega,rfl,E,F⟩
 case round=>
  obtain⟨i,g,hi,rfl,k,f⟩:=hrel;by_cases N:(i:Int)<(L.length:Int)
  ·have a:i<L.length:=by omega
   have j:=G.out L[i] (List.getElem_mem a);have l:=(t.out wr f).2;rcases l with U|⟨Z,J,rfl,P,y⟩
   ·rw[U] at a;cases a
   have c0:=y i a;clear y;have v:(aQ (L.take i)).length<=22000:=by
    have:=iF (L:=L.take i) (fun n M=>G.out n (List.mem_of_mem_take M));rw[List.length_take] at this;omega
   have A:=KR a;have HT:Aside _:=A;clear A;generalize aQ (L.take i)=T at *;generalize L[i]=x at *;have Q:=k.BQ 32 (by omega);have S:=uZ x j.1 j.2;have O:=Lib.itoa_length_le x j.1 j.2;have d:b<=wr.heap.size:=by have:=f.size;omega
   go_wp2_with (first
    |(go_at_call 11;refine Q.mono ?_;rintro e h ⟨g1,rfl,X,c⟩;have m:=Stp.newer f c k.ge d;have r:b<=h.heap.size:=Nat.le_trans d c.wt.size;have p:=S h (t.out h m).1)
    |(go_at_call 13;refine p.mono ?_;rintro e w2 ⟨rfl,q⟩;have D:=X.below q;have o:=D.write (Lib.itoa x) (by simp;omega))
    |(go_at_call 9;refine o.mono ?_;rintro e w3 ⟨u,Y,rfl,W,H⟩))
   go_roundg (gk-1)
   case measure=>omega
   case rel=>
    refine⟨i+1,Y,by omega,by go_num,?_,?_⟩
    ·rw[HT.out];exact W
    ·exact Stp.newer (m.trans (q.mono r)) H D.ge (by have:=q.size;omega)
  ·have a:i=L.length:=by omega
   rw[a,List.take_length] at k;have R:=k.text (by have:=f.size;omega);clear a;go_wp2_with (go_at_call 12;refine R.mono ?_;rintro e h ⟨rfl,m⟩)
   go_ret;exact⟨rfl,by rw[z];exact f.trans m⟩
end Go.Proofs.YtippochapiolpaaGreatDoor

/- A pipe in memory, the program's and the document's; what is told of one, plainly. -/
import Derived.WalkKit
import Derived.ProofKit
import Derived.Laws.IdiomCopy
import Derived.Laws.BytesArg
import Derived.Lib.SliceRun
import Derived.Test.YtippochapiolpaaGreatDoorRows
import Derived.WalkLawsBesides
import Derived.Outline
import Derived.RegionTactic
import Derived.ChangeAlike
import Derived.BigQuiet
import Derived.Deep.QuietTactic
set_option maxHeartbeats 2000000
namespace Go.Proofs.YtippochapiolpaaGreatDoor
open Go.RowKit
abbrev tp (b:Nat):Value:=.pointer (some ⟨b,0,none⟩)
abbrev txt (l:List UInt8):Value:=.string ⟨l.toArray⟩
def bt (l:List UInt8) (k:Nat):Int:=(((l[k]?).getD 0).toNat:Int)
def um (l:List UInt8):List Value:=l.map fun x=>.int .u8 (x.toNat:Int)
theorem iD (l:List UInt8):(um l).length=l.length:=by simp [um]
theorem EK (l:List UInt8) (k:Nat) (h:k<l.length):(um l)[k]'(by rw [iD];exact h)=.int .u8 (bt l k):=by
 simp [um,bt,h]
theorem Vb (l:List UInt8) (k:Nat) (v:Value) (h:(um l)[k]? = some v):k<l.length∧v=.int .u8 (bt l k):=by
 have hk:k<(um l).length:=(List.getElem?_eq_some_iff.1 h).1
 rw [iD] at hk
 refine ⟨hk,?_⟩
 rw [List.getElem?_eq_getElem (by rw [iD];exact hk),EK l k hk] at h
 exact (Option.some.inj h).symm
theorem M7 (l:List UInt8):∀v∈um l,v.oneCell'=true:=by
 intro v hv
 obtain ⟨x,_,rfl⟩:=List.mem_map.1 hv
 rfl
theorem DX (l:List UInt8) (k:Nat) (h:l.length≤k):bt l k=0:=by
 simp [bt,List.getElem?_eq_none h]
theorem Yt (a b:List UInt8) (k:Nat) (h:k<a.length):bt (a ++ b) k=bt a k:=by
 simp [bt,List.getElem?_append_left h]
theorem U6 (a b:List UInt8) (k:Nat):bt (a ++ b) (a.length+k)=bt b k:=by
 simp [bt,List.getElem?_append_right]
theorem Yu (l:List UInt8) (n k:Nat):bt (l.drop n) k=bt l (n+k):=by
 simp [bt,List.getElem?_drop]
structure Tb (w:World) (b:Nat) (F I:Int) (B:List UInt8):Prop where
 few:B.length≤16
 aR:w.cell? ⟨b,2,none⟩=some (.int .i64 F)
 int:w.cell? ⟨b,3,none⟩=some (.int .i64 I)
 byte:∀k,k<16→w.cell? ⟨b,4+k,none⟩=some (.int .u8 (bt B k))
 held:w.cell? ⟨b,20,none⟩=some (.int .i64 (B.length:Int))
 live:∀k,k<21→w.frozen? ⟨b,k,none⟩=false
section
variable {w w':World}{b:Nat}{F I:Int}{B:List UInt8}
theorem Tb.keep (h:Tb w b F I B) (hb:w'.heap[b]? = w.heap[b]?):Tb w' b F I B:=
 ⟨h.few,by rw [World.cell?_of_block (w:=w) (a:=⟨b,2,none⟩) hb];exact h.aR,by rw [World.cell?_of_block (w:=w) (a:=⟨b,3,none⟩) hb];exact h.int,
  fun k hk=>by rw [World.cell?_of_block (w:=w) (a:=⟨b,4+k,none⟩) hb];exact h.byte k hk,by rw [World.cell?_of_block (w:=w) (a:=⟨b,20,none⟩) hb];exact h.held,
  fun k hk=>by rw [World.frozen?_of_block (w:=w) (a:=⟨b,k,none⟩) hb];exact h.live k hk⟩
theorem jM {b i j:Nat}(h:i≠j):(⟨b,i,none⟩:Addr)≠⟨b,j,none⟩:=by
 intro e;simp only [Addr.mk.injEq,true_and,and_true] at e;exact h e
theorem Tb.nQ (h:Tb w b F I B) (v:Int):Tb (w.setCell ⟨b,2,none⟩ (.int .i64 v)) b v I B:=
 ⟨h.few,World.cell?_setCell_same _ _ _ h.aR,by rw [World.cell?_setCell_other _ _ _ _ (jM (by omega))];exact h.int,
  fun k hk=>by rw [World.cell?_setCell_other _ _ _ _ (jM (by omega))];exact h.byte k hk,by rw [World.cell?_setCell_other _ _ _ _ (jM (by omega))];exact h.held,
  fun k hk=>by rw [World.frozen?_setCell];exact h.live k hk⟩
theorem Tb.acu (h:Tb w b F I B) (v:Int):Tb (w.setCell ⟨b,3,none⟩ (.int .i64 v)) b F v B:=
 ⟨h.few,by rw [World.cell?_setCell_other _ _ _ _ (jM (by omega))];exact h.aR,World.cell?_setCell_same _ _ _ h.int,
  fun k hk=>by rw [World.cell?_setCell_other _ _ _ _ (jM (by omega))];exact h.byte k hk,by rw [World.cell?_setCell_other _ _ _ _ (jM (by omega))];exact h.held,
  fun k hk=>by rw [World.frozen?_setCell];exact h.live k hk⟩
theorem Tb.uH (h:Tb w b F I B) (o n:Nat) (ho:4≤o) (hn:o+n≤20):∀j,j<n→(w.cell? ⟨b,o+j,none⟩).isSome=true:=by
 intro j hj
 have:=h.byte (o+j-4) (by omega)
 rw [show 4+(o+j-4)=o+j by omega] at this
 rw [this];rfl
theorem Tb.free_at (h:Tb w b F I B) (o n:Nat) (hn:o+n≤20):∀j,j<n→w.frozen? ⟨b,o+j,none⟩=false:=fun j hj=>h.live (o+j) (by omega)
theorem dO {k o n:Nat}{vs:List Value}(hl:vs.length=n) (h:k<o∨o+n≤k):(w.setCells b o vs).cell? ⟨b,k,none⟩=w.cell? ⟨b,k,none⟩:=
 World.cell?_setCells_out b vs o w ⟨b,k,none⟩ (fun _ _=>by show k<o∨o+vs.length≤k;omega)
theorem Tb.write (h:Tb w b F I B) (S:List UInt8) (hS:B.length+S.length≤16) :
 Tb ((w.setCells b (4+B.length) (um S)).setCell ⟨b,20,none⟩ (.int .i64 ((B.length:Int)+(S.length:Int)))) b F I (B ++ S):=by
 have hl:=iD S
 have at_:=h.uH (4+B.length) S.length (by omega) (by omega)
 refine ⟨by rw [List.length_append];exact hS,?_,?_,fun k hk=>?_,?_,fun k hk=>by rw [World.frozen?_setCell,World.frozen?_setCells];exact h.live k hk⟩
 ·rw [World.cell?_setCell_other _ _ _ _ (jM (by omega)),dO hl (by omega)];exact h.aR
 ·rw [World.cell?_setCell_other _ _ _ _ (jM (by omega)),dO hl (by omega)];exact h.int
 ·rw [World.cell?_setCell_other _ _ _ _ (jM (by omega))]
  by_cases h1:k<B.length
  ·rw [dO hl (by omega),h.byte k hk,Yt _ _ _ h1]
  ·obtain ⟨j,rfl⟩:∃j,k=B.length+j:=⟨k-B.length,by omega⟩
   rw [U6]
   by_cases h2:j<S.length
   ·rw [show 4+(B.length+j)=4+B.length+j by omega,World.cell?_setCells_in b (um S) (4+B.length) w (fun i hi=>at_ i (by rw [hl] at hi;exact hi)) j (by rw [hl];exact h2),EK S j h2]
   ·rw [dO hl (by omega),h.byte _ hk,DX _ _ (by omega),DX _ _ (by omega)]
 ·have hh:(w.setCells b (4+B.length) (um S)).cell? ⟨b,20,none⟩=some (.int .i64 (B.length:Int)):=by rw [dO hl (by omega)];exact h.held
  rw [World.cell?_setCell_same _ _ _ hh,List.length_append];simp
theorem Tb.take (h:Tb w b F I B) (n:Nat) (hn:n≤B.length) :
 Tb (((w.setCells b 4 (um (B.drop n))).setCell ⟨b,20,none⟩ (.int .i64 ((B.length-n:Nat):Int))).setCells b (4+(B.length-n)) (List.replicate (16-(B.length-n)) (.int .u8 0))) b F I (B.drop n):=by
 have hf:=h.few
 have hd:(B.drop n).length=B.length-n:=by simp
 have hl:(um (B.drop n)).length=B.length-n:=by rw [iD,hd]
 have hr:(List.replicate (16-(B.length-n)) (Value.int .u8 0)).length=16-(B.length-n):=by simp
 have at_:=h.uH 4 (B.length-n) (by omega) (by omega)
 obtain ⟨w1,hw1⟩:∃w1,(w.setCells b 4 (um (B.drop n))).setCell ⟨b,20,none⟩ (.int .i64 ((B.length-n:Nat):Int))=w1:=⟨_,rfl⟩
 have c1:∀k,k<16→w1.cell? ⟨b,4+k,none⟩=some (.int .u8 (if k<B.length-n then bt (B.drop n) k else bt B k)):=by
  intro k hk
  rw [←hw1,World.cell?_setCell_other _ _ _ _ (jM (by omega))]
  by_cases h1:k<B.length-n
  ·rw [if_pos h1,World.cell?_setCells_in b (um (B.drop n)) 4 w (fun i hi=>at_ i (by rw [hl] at hi;exact hi)) k (by rw [hl];exact h1),EK _ k (by rw [hd];exact h1)]
  ·rw [if_neg h1,dO hl (by omega),h.byte k hk]
 have l1:∀k,k<21→w1.frozen? ⟨b,k,none⟩=false:=fun k hk=>by rw [←hw1,World.frozen?_setCell,World.frozen?_setCells];exact h.live k hk
 have f1:w1.cell? ⟨b,2,none⟩=some (.int .i64 F):=by rw [←hw1,World.cell?_setCell_other _ _ _ _ (jM (by omega)),dO hl (by omega)];exact h.aR
 have i1:w1.cell? ⟨b,3,none⟩=some (.int .i64 I):=by rw [←hw1,World.cell?_setCell_other _ _ _ _ (jM (by omega)),dO hl (by omega)];exact h.int
 have h1:w1.cell? ⟨b,20,none⟩=some (.int .i64 ((B.length-n:Nat):Int)):=by
  have hh:(w.setCells b 4 (um (B.drop n))).cell? ⟨b,20,none⟩=some (.int .i64 (B.length:Int)):=by rw [dO hl (by omega)];exact h.held
  rw [←hw1,World.cell?_setCell_same _ _ _ hh]
 rw [hw1]
 refine ⟨by rw [hd];omega,?_,?_,fun k hk=>?_,?_,fun k hk=>by rw [World.frozen?_setCells];exact l1 k hk⟩
 ·rw [dO hr (by omega)];exact f1
 ·rw [dO hr (by omega)];exact i1
 ·by_cases h2:k<B.length-n
  ·rw [dO hr (by omega),c1 k hk,if_pos h2]
  ·obtain ⟨j,rfl⟩:∃j,k=B.length-n+j:=⟨k-(B.length-n),by omega⟩
   rw [show 4+(B.length-n+j)=4+(B.length-n)+j by omega,World.cell?_setCells_in b (List.replicate (16-(B.length-n)) (Value.int .u8 0)) (4+(B.length-n)) w1 (fun i hi=>by rw [hr] at hi;rw [show 4+(B.length-n)+i=4+(B.length-n+i) by omega,c1 _ (by omega)];rfl) j (by rw [hr];omega),DX _ _ (by rw [hd];omega)]
   simp
 ·rw [dO hr (by omega),h1,hd]
end
def opE (e:Int):Int:=if e=2∨e=3 then 0 else 1
def opF (F e:Int):Int:=if e=2 then F+1 else F
def opI (I e:Int):Int:=if e=3 then I+1 else I
def ZF (F I e:Int):Int:=if e=2 then (if F=0 then 6 else 0) else if e=3 then (if I=0 then 6 else 0) else 1
def VB (F e:Int):Int:=if e=2∧F≠0 then F-1 else F
def VA (I e:Int):Int:=if e=3∧I≠0 then I-1 else I
def Lf (F:Int) (B s:List UInt8):Int:=if F=0 then 14 else if s=[] then 0 else if B.length=16 then 12 else 0
def Nf (F:Int) (B s:List UInt8):Nat:=if F=0 then 0 else min s.length (16-B.length)
def I6 (F:Int) (B s:List UInt8):List UInt8:=if F=0 then B else B ++ s.take (16-B.length)
def IQ (I:Int) (B:List UInt8) (n:Int):Int:=if n<0 then 2 else if n=0 then 0 else if B=[]∧0<I then 8 else 0
theorem VQ (F:Int) (B s:List UInt8) (h:B.length≤16):(I6 F B s).length≤16:=by
 unfold I6;split
 ·exact h
 ·rw [List.length_append,List.length_take];omega
def erT (c:Int):Value:=if c=0 then .nilIface else .iface 25 (.int .i64 c)
theorem Bt {P:Program}(w:World) (dT sT ty elem:TypeId) (b o dLen dCap:Nat) (s:List UInt8)
 (hu:P.underlying dT=some (.slice elem)) (hz:∀w,(Go.sizeOf elem).run P w=.ok 1 w)
 (hc:∀j,j<dLen→(w.cell? ⟨b,o+j,none⟩).isSome=true) (hf:∀j,j<dLen→w.frozen? ⟨b,o+j,none⟩=false) :
 (Builtin.copy_ #[dT,sT] ty #[.slice (some ⟨b,o,none⟩) dLen dCap,txt s]).run P w=.ok (.int .i64 ((s.take dLen).length:Int)) (w.setCells b o (um (s.take dLen))):=by
 have hl:(um (s.take dLen)).length=min dLen s.length:=by rw [iD,List.length_take]
 have hst:=run_storeCells_cells (P:=P) b o (um (s.take dLen)) 0 w (by rw [hl];intro j hj;simpa using hc j (by omega)) (by rw [hl];intro j hj;simpa using hf j (by omega)) (M7 _)
 have hsz:(⟨s.toArray⟩:ByteArray).size=s.length:=by simp [ByteArray.size]
 have hm:Nat.min s.length dLen=min dLen s.length:=Nat.min_comm _ _
 have htk:List.take (min dLen s.length) (List.map (fun x:UInt8=>Value.int .u8 (x.toNat:Int)) s)=um (s.take dLen):=by
  unfold um;rw [List.map_take]
  by_cases h:dLen≤s.length
  ·rw [Nat.min_eq_left h]
  ·rw [Nat.min_eq_right (by omega),List.take_of_length_le (by simp),List.take_of_length_le (by simp;omega)]
 simp [Builtin.copy_,run_underlying hu,Builtin.lenOf,Builtin.firstCells,hz,hsz,hm]
 rw [htk,hst]
 simp [Result.andThen,goInt]
theorem aV (w:World) (b o:Nat) (v:Value):w.grownBy (w.setCell ⟨b,o,none⟩ v) (some b):=
 ⟨rfl,rfl,rfl,by simp [World.setCell],fun k _ h=>Below.heap_setCell _ _ _ _ (fun e=>h (by rw [e]))⟩
theorem nG (b:Nat):∀(vs:List Value) (o:Nat) (w:World),w.grownBy (w.setCells b o vs) (some b)
 | [],_,w=>World.grownBy.refl w _
 |v :: r,o,w=>by
  rw [World.setCells]
  have h:=aV w b o v
  have k:=nG b r (o+1) (w.setCell ⟨b,o,none⟩ v)
  exact ⟨k.os.trans h.os,k.tape.trans h.tape,k.output.trans h.output,Nat.le_trans h.size k.size,fun i hi hn=>(k.block i (Nat.lt_of_lt_of_le hi h.size) hn).trans (h.block i hi hn)⟩
theorem AV (b:Nat):∀(vs:List Value) (o:Nat) (w:World),(w.setCells b o vs).drew=w.drew.setCells b o vs
 | [],_,_=>rfl
 |v :: r,o,w=>by rw [World.setCells,World.setCells,AV b r];rfl
theorem jo {w w':World}{r:Option Nat}(h:w.grownBy w' r):w.grownBy w'.drew r:=⟨h.os,h.tape,h.output,h.size,h.block⟩
theorem iJ {w w' w'':World}{r:Option Nat}(h:w.grownBy w' r) (k:w'.grownBy w'' r):w.grownBy w'' r:=
 ⟨k.os.trans h.os,k.tape.trans h.tape,k.output.trans h.output,Nat.le_trans h.size k.size,fun i hi hn=>(k.block i (Nat.lt_of_lt_of_le hi h.size) hn).trans (h.block i hi hn)⟩
theorem Zp (b K:Nat) (hK:K<16) (w:World):(Instr.sliceAt 298 (.pointer (some ⟨b,4,none⟩)) (some (.int .i64 (K:Int))) none none).run Tryz.prog w=.ok (.slice (some ⟨b,4+K,none⟩) (16-K) (16-K)) w:=by
 have hl:Tryz.prog.arrayLen 298=16:=by kernel_rfl
 have he:Tryz.prog.elem 298=5:=by kernel_rfl
 have h:=run_sliceAt_array_l (P:=Tryz.prog) w 298 ⟨b,4,none⟩ (by kernel_rfl) .i64 (K:Int) (by omega) (by rw [hl];omega)
 rw [h,hl,he,Tryz.sizeOf5]
 simp only [Result.andThen,slicedAt,Int.toNat_natCast]
 rw [if_neg (by omega),Addr.add_lit,Nat.mul_one]
theorem adI (b n:Nat) (hn:n≤16) (w:World):(Instr.sliceAt 298 (.pointer (some ⟨b,4,none⟩)) none (some (.int .i64 (n:Int))) none).run Tryz.prog w=.ok (.slice (some ⟨b,4,none⟩) n 16) w:=by
 have hl:Tryz.prog.arrayLen 298=16:=by kernel_rfl
 have he:Tryz.prog.elem 298=5:=by kernel_rfl
 have h:=run_sliceAt_array_h (P:=Tryz.prog) w 298 ⟨b,4,none⟩ (by kernel_rfl) .i64 (n:Int) (by omega) (by rw [hl];omega)
 rw [h,hl,he,Tryz.sizeOf5]
 simp only [Result.andThen,slicedAt,Int.toNat_natCast]
 rw [if_neg (by omega),Addr.add_lit]
 rfl
theorem abF (b n K:Nat) (hn:n<16) (hnK:n≤K) (hK:K≤16) (w:World):(Instr.sliceAt 298 (.pointer (some ⟨b,4,none⟩)) (some (.int .i64 (n:Int))) (some (.int .i64 (K:Int))) none).run Tryz.prog w=.ok (.slice (some ⟨b,4+n,none⟩) (K-n) (16-n)) w:=by
 have hl:Tryz.prog.arrayLen 298=16:=by kernel_rfl
 have he:Tryz.prog.elem 298=5:=by kernel_rfl
 have h:=run_sliceAt_array_lh (P:=Tryz.prog) w 298 ⟨b,4,none⟩ (by kernel_rfl) .i64 .i64 (n:Int) (K:Int) (by omega) (by omega) (by rw [hl];omega)
 rw [h,hl,he,Tryz.sizeOf5]
 simp only [Result.andThen,slicedAt,Int.toNat_natCast]
 rw [if_neg (by omega),Addr.add_lit,Nat.mul_one]
theorem Yy (b:Nat) (w:World):(Instr.sliceAt 298 (.pointer (some ⟨b,4,none⟩)) (some (.int .i64 16)) (some (.int .i64 16)) none).run Tryz.prog w=.ok (.slice (some ⟨b,4,none⟩) 0 0) w:=by
 have hl:Tryz.prog.arrayLen 298=16:=by kernel_rfl
 have he:Tryz.prog.elem 298=5:=by kernel_rfl
 have h:=run_sliceAt_array_lh (P:=Tryz.prog) w 298 ⟨b,4,none⟩ (by kernel_rfl) .i64 .i64 16 16 (by omega) (by omega) (by rw [hl];omega)
 rw [h,hl,he,Tryz.sizeOf5]
 rfl
theorem Yz (b:Nat) (w:World):(Instr.sliceAt 298 (.pointer (some ⟨b,4,none⟩)) none none none).run Tryz.prog w=.ok (.slice (some ⟨b,4,none⟩) 16 16) w:=by
 have hl:Tryz.prog.arrayLen 298=16:=by kernel_rfl
 have he:Tryz.prog.elem 298=5:=by kernel_rfl
 have h:=run_sliceAt_array_all (P:=Tryz.prog) w 298 ⟨b,4,none⟩ (by kernel_rfl)
 rw [h,hl,he,Tryz.sizeOf5]
 rfl
section
variable {w:World}{b:Nat}{F I:Int}{B:List UInt8}
theorem acp (w:World) (b:Nat) (e:Int) :
 Calls Tryz.prog 340 #[tp b,.int .i64 e] w fun x w'=>x=.returned (.bool (decide (e=2∨e=3)))∧w'=w:=by
 by_cases h2:e=2
 ·subst h2
  go_enter Tryz.func340,Tryz.ntmps340
  go_wp2
  go_ret
  exact ⟨rfl,rfl⟩
 ·by_cases h3:e=3
  ·subst h3
   go_enter Tryz.func340,Tryz.ntmps340
   go_wp2
   go_ret
   exact ⟨rfl,rfl⟩
  ·rw [decide_eq_false (show ¬(e=2∨e=3) by omega)]
   go_enter Tryz.func340,Tryz.ntmps340
   go_wp2
   go_ret
   exact ⟨by simp [h2,h3],rfl⟩
theorem F8 (w:World) (b:Nat) (e:Int) (h:¬(e=2∨e=3)):Calls Tryz.prog 340 #[tp b,.int .i64 e] w fun x w'=>x=.returned (.bool false)∧w'=w:=by
 have:=acp w b e;rw [decide_eq_false h] at this;exact this
theorem oz (w:World) (b:Nat) (e:Int) (h:e=2∨e=3):Calls Tryz.prog 340 #[tp b,.int .i64 e] w fun x w'=>x=.returned (.bool true)∧w'=w:=by
 have:=acp w b e;rw [decide_eq_true h] at this;exact this
theorem Tb.ends (h:Tb w b F I B):Calls Tryz.prog 311 #[tp b] w fun x w'=>x=.returned (.tuple #[.int .i64 F,.int .i64 I])∧∃q,w'=w.drewN q:=by
 have c1:=h.aR
 have c2:=h.int
 go_enter Tryz.func311,Tryz.ntmps311
 go_wp2
 go_quiet (fail)
 go_wp2
 go_ret2
 exact ⟨rfl,_,rfl⟩
theorem Tb.len (h:Tb w b F I B):Calls Tryz.prog 310 #[tp b] w fun x w'=>x=.returned (.int .i64 (B.length:Int))∧w'=w:=by
 have c1:=h.held
 go_enter Tryz.func310,Tryz.ntmps310
 go_wp2
 go_ret
 exact ⟨rfl,rfl⟩
theorem Tb.rf (h:Tb w b F I B) (e:Int) (hF:0≤F) (hF':F<1000) (hI:0≤I) (hI':I<1000) :
 Calls Tryz.prog 309 #[tp b,.int .i64 e] w fun x w'=>x=.returned (erT (opE e))∧Tb w' b (opF F e) (opI I e) B∧w.grownBy w' (some b):=by
 have c1:=h.aR
 have c2:=h.int
 have l2:=h.live 2 (by omega)
 have l3:=h.live 3 (by omega)
 by_cases h2:e=2
 ·subst h2
  go_enter Tryz.func309,Tryz.ntmps309
  go_wp2_with (go_at_call 340;refine (oz _ b 2 (by omega)).mono ?_;rintro x w' ⟨rfl,rfl⟩)
  go_region
  go_wp2
  go_ret
  exact ⟨rfl,(h.nQ (F+1)).keep rfl,jo (aV _ _ _ _)⟩
 ·by_cases h3:e=3
  ·subst h3
   go_enter Tryz.func309,Tryz.ntmps309
   go_wp2_with (go_at_call 340;refine (oz _ b 3 (by omega)).mono ?_;rintro x w' ⟨rfl,rfl⟩)
   go_region
   go_wp2
   go_ret
   exact ⟨rfl,(h.acu (I+1)).keep rfl,jo (aV _ _ _ _)⟩
  ·have e1:opE e=1:=by unfold opE;rw [if_neg (by omega)]
   have e2:opF F e=F:=by unfold opF;rw [if_neg h2]
   have e3:opI I e=I:=by unfold opI;rw [if_neg h3]
   rw [e1,e2,e3]
   go_enter Tryz.func309,Tryz.ntmps309
   go_wp2_with (go_at_call 340;refine (F8 _ b e (by omega)).mono ?_;rintro x w' ⟨rfl,rfl⟩)
   go_ret
   exact ⟨rfl,h,World.grownBy.refl _ _⟩
end
section
variable {w:World}{b:Nat}{F I:Int}{B:List UInt8}
theorem Tb.zM (h:Tb w b F I B) (e:Int) (hF:0≤F) (hF':F<1000) (hI:0≤I) (hI':I<1000) :
 Calls Tryz.prog 329 #[tp b,.int .i64 e] w fun x w'=>x=.returned (erT (ZF F I e))∧Tb w' b (VB F e) (VA I e) B∧w.grownBy w' (some b):=by
 have c1:=h.aR
 have c2:=h.int
 have l2:=h.live 2 (by omega)
 have l3:=h.live 3 (by omega)
 by_cases h2:e=2
 ·subst h2
  by_cases hz:F=0
  ·subst hz
   go_enter Tryz.func329,Tryz.ntmps329
   go_wp2_with (go_at_call 340;refine (oz _ b 2 (by omega)).mono ?_;rintro x w' ⟨rfl,rfl⟩)
   go_ret
   exact ⟨rfl,h,World.grownBy.refl _ _⟩
  ·have e1:ZF F I 2=0:=by unfold ZF;rw [if_pos rfl,if_neg hz]
   have e2:VB F 2=F-1:=by unfold VB;rw [if_pos ⟨rfl,hz⟩]
   have e3:VA I 2=I:=by unfold VA;rw [if_neg (by omega)]
   have hq:(F == 0)=false:=by simp [hz]
   rw [e1,e2,e3]
   go_enter Tryz.func329,Tryz.ntmps329
   go_wp2_with (go_at_call 340;refine (oz _ b 2 (by omega)).mono ?_;rintro x w' ⟨rfl,rfl⟩)
   go_region
   go_wp2
   go_ret
   exact ⟨rfl,(h.nQ (F-1)).keep rfl,jo (aV _ _ _ _)⟩
 ·by_cases h3:e=3
  ·subst h3
   by_cases hz:I=0
   ·subst hz
    go_enter Tryz.func329,Tryz.ntmps329
    go_wp2_with (go_at_call 340;refine (oz _ b 3 (by omega)).mono ?_;rintro x w' ⟨rfl,rfl⟩)
    go_ret
    exact ⟨rfl,h,World.grownBy.refl _ _⟩
   ·have e1:ZF F I 3=0:=by unfold ZF;rw [if_neg (by omega),if_pos rfl,if_neg hz]
    have e2:VB F 3=F:=by unfold VB;rw [if_neg (by omega)]
    have e3:VA I 3=I-1:=by unfold VA;rw [if_pos ⟨rfl,hz⟩]
    have hq:(I == 0)=false:=by simp [hz]
    rw [e1,e2,e3]
    go_enter Tryz.func329,Tryz.ntmps329
    go_wp2_with (go_at_call 340;refine (oz _ b 3 (by omega)).mono ?_;rintro x w' ⟨rfl,rfl⟩)
    go_region
    go_wp2
    go_ret
    exact ⟨rfl,(h.acu (I-1)).keep rfl,jo (aV _ _ _ _)⟩
  ·have e1:ZF F I e=1:=by unfold ZF;rw [if_neg h2,if_neg h3]
   have e2:VB F e=F:=by unfold VB;rw [if_neg (by omega)]
   have e3:VA I e=I:=by unfold VA;rw [if_neg (by omega)]
   rw [e1,e2,e3]
   go_enter Tryz.func329,Tryz.ntmps329
   go_wp2_with (go_at_call 340;refine (F8 _ b e (by omega)).mono ?_;rintro x w' ⟨rfl,rfl⟩)
   go_ret
   exact ⟨rfl,h,World.grownBy.refl _ _⟩
theorem iK (w:World) (q:Nat) (r:Option Nat):w.grownBy (w.drewN q) r:=⟨rfl,rfl,rfl,Nat.le_refl _,fun _ _ _=>rfl⟩
theorem Tb.zk (h:Tb w b F I B) (s:List UInt8) :
 Calls Tryz.prog 272 #[tp b,txt s] w fun x w'=>x=.returned (.tuple #[.int .i64 (Nf F B s:Int),erT (Lf F B s)])∧Tb w' b F I (I6 F B s)∧w.grownBy w' (some b):=by
 have hE:=h.ends
 by_cases hz:F=0
 ·subst hz
  go_enter Tryz.func272,Tryz.ntmps272
  go_wp2_with fail
  refine hE.mono ?_
  rintro x w1 ⟨rfl,q,rfl⟩
  go_wp2_with fail
  go_ret2
  exact ⟨rfl,h.keep rfl,iK _ _ _⟩
 ·have hq:(F == 0)=false:=by simp [hz]
  by_cases hs:s=[]
  ·subst hs
   have e1:Lf F B []=0:=by unfold Lf;rw [if_neg hz,if_pos rfl]
   have e2:Nf F B []=0:=by unfold Nf;rw [if_neg hz];simp
   have e3:I6 F B []=B:=by unfold I6;rw [if_neg hz];simp
   rw [e1,e2,e3]
   go_enter Tryz.func272,Tryz.ntmps272
   go_wp2_with fail
   refine hE.mono ?_
   rintro x w1 ⟨rfl,q,rfl⟩
   go_wp2_with fail
   go_ret2
   exact ⟨rfl,h.keep rfl,iK _ _ _⟩
  ·have hsq:s.isEmpty=false:=by cases s with
    |nil=>exact absurd rfl hs
    |cons _ _=>rfl
   have hc0:=h.held
   by_cases hf:B.length=16
   ·have e1:Lf F B s=12:=by unfold Lf;rw [if_neg hz,if_neg hs,if_pos hf]
    have e2:Nf F B s=0:=by unfold Nf;rw [if_neg hz,hf];simp
    have e3:I6 F B s=B:=by unfold I6;rw [if_neg hz,hf];simp
    rw [hf] at hc0
    rw [e1,e2,e3]
    go_enter Tryz.func272,Tryz.ntmps272
    go_wp2_with fail
    refine hE.mono ?_
    rintro x w1 ⟨rfl,q,rfl⟩
    go_wp2_with fail
    go_ret2
    exact ⟨rfl,h.keep rfl,iK _ _ _⟩
   ·have Jf:=h.few
    have e1:Lf F B s=0:=by unfold Lf;rw [if_neg hz,if_neg hs,if_neg hf]
    obtain ⟨S,hS⟩:∃S,s.take (16-B.length)=S:=⟨_,rfl⟩
    have hSl:S.length=min s.length (16-B.length):=by rw [←hS,List.length_take];exact Nat.min_comm _ _
    have e2:Nf F B s=S.length:=by unfold Nf;rw [if_neg hz,hSl]
    have e3:I6 F B s=B ++ S:=by unfold I6;rw [if_neg hz,hS]
    rw [e1,e2,e3]
    have acP:B.length+S.length≤16:=by omega
    obtain ⟨K,hK⟩:∃K,B.length=K:=⟨_,rfl⟩
    have hfq:((K:Int) == 16)=false:=by simp;omega
    have ZT:=h.live 20 (by omega)
    have hcopy:∀q ty,(Builtin.copy_ #[34,9] ty #[.slice (some ⟨b,4+K,none⟩) (16-K) (16-K),txt s]).run Tryz.prog (w.drewN (q+1))=.ok (.int .i64 (S.length:Int)) ((w.drewN (q+1)).setCells b (4+K) (um S)):=fun q ty=>by
     rw [←hS,←hK]
     exact Bt (w.drewN (q+1)) 34 9 ty 5 b (4+B.length) (16-B.length) (16-B.length) s Tryz.underlying34 (fun _=>Tryz.sizeOf5 _) ((h.keep (w':=w.drewN (q+1)) rfl).uH _ _ (by omega) (by omega)) ((h.keep (w':=w.drewN (q+1)) rfl).free_at _ _ (by omega))
    have Zh:∀q,((w.drewN (q+1)).setCells b (4+K) (um S)).cell? ⟨b,20,none⟩=some (.int .i64 (K:Int)):=fun q=>by
     rw [dO (n:=S.length) (iD S) (by omega),←hK];exact (h.keep (w':=w.drewN (q+1)) rfl).held
    have hfree:∀q,((w.drewN (q+1)).setCells b (4+K) (um S)).frozen? ⟨b,20,none⟩=false:=fun q=>by
     rw [World.frozen?_setCells];exact ZT
    have fin:∀q,Tb (((w.drewN (q+1)).setCells b (4+K) (um S)).setCell ⟨b,20,none⟩ (.int .i64 ((K:Int)+(S.length:Int)))) b F I (B ++ S):=fun q=>by
     rw [←hK];exact (h.keep (w':=w.drewN (q+1)) rfl).write S acP
    have Vz:∀q,w.grownBy (((w.drewN (q+1)).setCells b (4+K) (um S)).setCell ⟨b,20,none⟩ (.int .i64 ((K:Int)+(S.length:Int)))) (some b):=fun q=>
     iJ (iJ (iK w (q+1) _) (nG b _ _ _)) (aV _ _ _ _)
    rw [hK] at hc0 acP Jf
    have hsl:=Zp b K (by omega)
    clear hS hSl e1 e2 e3 hf h
    generalize um S=bS at *
    generalize S.length=nS at *
    go_enter Tryz.func272,Tryz.ntmps272
    go_wp2_with fail
    refine hE.mono ?_
    rintro x w1 ⟨rfl,q,rfl⟩
    have hcopy:=hcopy q
    have Zh:=Zh q
    have hfree:=hfree q
    have fin:=fin q
    have Vz:=Vz q
    go_wp2_with fail
    go_region
    go_wp2_with fail
    go_ret2
    exact ⟨rfl,fin,Vz⟩
end
theorem KZ (w:World) (b n c:Nat) (B:List UInt8) (hn:n≤B.length) (hc:∀k,k<n→w.cell? ⟨b,4+k,none⟩=some (.int .u8 (bt B k))) :
 (convert 34 9 (.slice (some ⟨b,4,none⟩) n c)).run Tryz.prog w=.ok (txt (B.take n)) w:=by
 have h:=run_convert_bytes_arg (P:=Tryz.prog) w 34 5 Tryz.underlying34 Tryz.underlying5 b 4 n c ((B.take n).map fun x=>(x.toNat:Int)) (by simp;omega) (fun i hi=>by
  have hi':i<B.length:=by omega
  rw [hc i hi]
  congr 2
  simp [bt,List.getD,hi',List.getElem?_take_of_lt hi]) 9 Tryz.underlying9
 rw [h,show strOfNums ((B.take n).map fun x=>(x.toNat:Int))=⟨(B.take n).toArray⟩ by apply ByteArray.ext;simp [strOfNums,Function.comp_def]]
section
variable {w:World}{b:Nat}{F I:Int}{B:List UInt8}
theorem Tb.Wj (h:Tb w b F I B) (n:Nat) (h1:1≤n) (hn:n≤B.length) :
 Calls Tryz.prog 312 #[tp b,.int .i64 (n:Int)] w fun x w'=>x=.returned (txt (B.take n))∧Tb w' b F I (B.drop n)∧w.grownBy w' (some b):=by
 have Jf:=h.few
 have ZT:=h.live 20 (by omega)
 have hsl1:=adI b n (by omega)
 have ahy:=KZ w b n 16 B hn (fun k hk=>h.byte k (by omega))
 have hc0:=h.held
 have hall:=Yz b
 have hd:(B.drop n).length=B.length-n:=by simp
 have hk:Tb (w.drewN 1) b F I B:=h.keep rfl
 have hcopy:∀ty (sl:Value),sl=(if n=16 then .slice (some ⟨b,4,none⟩) 0 0 else .slice (some ⟨b,4+n,none⟩) (B.length-n) (16-n))→
  (Builtin.copy_ #[34,34] ty #[.slice (some ⟨b,4,none⟩) 16 16,sl]).run Tryz.prog w.drew=.ok (.int .i64 ((B.length-n:Nat):Int)) (w.drew.setCells b 4 (um (B.drop n))):=by
  rintro ty sl rfl
  by_cases h16:n=16
  ·rw [if_pos h16]
   have e0:B.drop n=[]:=List.drop_eq_nil_of_le (by omega)
   have:=run_copy_none (P:=Tryz.prog) w.drew 34 34 ty 5 (some ⟨b,4,none⟩) (some ⟨b,4,none⟩) 16 16 0 0 Tryz.underlying34 (by kernel_rfl) (by rfl)
   rw [this,e0,show B.length-n=0 by omega];rfl
  ·rw [if_neg h16]
   have:=run_copy_cells (P:=Tryz.prog) w.drew 34 34 ty 5 b 4 16 16 ⟨b,4+n,none⟩ (B.length-n) (16-n) (um (B.drop n)) Tryz.underlying34 (by kernel_rfl) (by rw [iD,hd];exact (Nat.min_eq_left (by omega)).symm) (fun j v hv=>by
    obtain ⟨hj,rfl⟩:=Vb _ _ _ hv
    rw [Addr.add_lit,Yu,show 4+n+j=4+(n+j) by omega]
    exact (h.keep (w':=w.drew) rfl).byte (n+j) (by omega)) (by rw [iD,hd];exact (h.keep (w':=w.drew) rfl).uH 4 _ (by omega) (by omega)) (by rw [iD,hd];exact (h.keep (w':=w.drew) rfl).free_at 4 _ (by omega)) (M7 _)
   rw [this,iD,hd];rfl
 obtain ⟨D,hD⟩:∃D,B.length-n=D:=⟨_,rfl⟩
 have afP:D<16:=by omega
 obtain ⟨w1,hw1⟩:∃w1,w.drew.setCells b 4 (um (B.drop n))=w1:=⟨_,rfl⟩
 have hc1:w1.cell? ⟨b,20,none⟩=some (.int .i64 (B.length:Int)):=by
  rw [←hw1,dO (n:=D) (by rw [iD,hd,hD]) (by omega)];exact hc0
 have hf1:w1.frozen? ⟨b,20,none⟩=false:=by rw [←hw1,World.frozen?_setCells];exact ZT
 have ajC:=Zp b D afP
 have hT:=(h.keep (w':=w.drew) rfl).take n hn
 rw [hD,hw1] at hT
 have af7:∀ty,(Builtin.clear_ #[34] ty #[.slice (some ⟨b,4+D,none⟩) (16-D) (16-D)]).run Tryz.prog (w1.setCell ⟨b,20,none⟩ (.int .i64 (D:Int))).drew=.ok (.tuple #[]) ((w1.setCell ⟨b,20,none⟩ (.int .i64 (D:Int))).drew.setCells b (4+D) (List.replicate (16-D) (.int .u8 0))):=fun ty=>
  Lib.run_clear_slice _ 34 5 ty (.int .u8 0) Tryz.underlying34 (fun _=>Tryz.zeroValue5 _) rfl rfl b (4+D) (16-D) (16-D) (by omega) (fun j hj=>by
   show ((w1.setCell ⟨b,20,none⟩ (.int .i64 (D:Int))).cell? ⟨b,4+D+j,none⟩).isSome=true
   rw [World.cell?_setCell_other _ _ _ _ (jM (by omega)),←hw1,dO (n:=D) (by rw [iD,hd,hD]) (by omega)]
   exact (h.keep (w':=w.drew) rfl).uH 4 16 (by omega) (by omega) (D+j) (by omega) |> fun x=>by rw [show 4+D+j=4+(D+j) by omega];exact x) (fun j hj=>by
   show (w1.setCell ⟨b,20,none⟩ (.int .i64 (D:Int))).frozen? ⟨b,4+D+j,none⟩=false
   rw [World.frozen?_setCell,←hw1,World.frozen?_setCells];exact h.live (4+D+j) (by omega))
 have Vz:w.grownBy (((w1.setCell ⟨b,20,none⟩ (.int .i64 (D:Int))).drew).setCells b (4+D) (List.replicate (16-D) (.int .u8 0))) (some b):=by
  rw [←hw1]
  exact iJ (jo (iJ (iJ (jo (World.grownBy.refl w _)) (nG b _ 4 _)) (aV _ _ _ _))) (nG b _ _ _)
 have hT':Tb ((w1.setCell ⟨b,20,none⟩ (.int .i64 (D:Int))).drew.setCells b (4+D) (List.replicate (16-D) (.int .u8 0))) b F I (B.drop n):=hT.keep (by
  rw [show ((w1.setCell ⟨b,20,none⟩ (.int .i64 (D:Int))).drew.setCells b (4+D) (List.replicate (16-D) (.int .u8 0)))=((w1.setCell ⟨b,20,none⟩ (.int .i64 (D:Int))).setCells b (4+D) (List.replicate (16-D) (.int .u8 0))).drew from (AV b _ _ _).symm]
  rfl)
 have hc3:(w1.setCell ⟨b,20,none⟩ (.int .i64 (D:Int))).cell? ⟨b,20,none⟩=some (.int .i64 (D:Int)):=World.cell?_setCell_same _ _ _ hc1
 rw [hD,hw1] at hcopy
 obtain ⟨K,hK⟩:∃K,B.length=K:=⟨_,rfl⟩
 rw [hK] at hc0 hc1 hn Jf hD
 generalize B.take n=T at *
 generalize B.drop n=E at *
 generalize List.replicate (16-D) (Value.int .u8 0)=zs at *
 by_cases h16:n=16
 ·subst h16
  have ajB:=Yy b
  have hcp:=fun ty=>hcopy ty _ (if_pos rfl).symm
  obtain rfl:K=16:=by omega
  go_enter Tryz.func312,Tryz.ntmps312
  go_wp2_with fail
  go_region
  go_wp2_with fail
  go_region
  go_wp2_with fail
  go_ret
  exact ⟨rfl,hT',Vz⟩
 ·have hsl2:=abF b n K (by omega) hn (by omega)
  simp only [hD] at hsl2
  have hcp:=fun ty=>hcopy ty _ (if_neg h16).symm
  go_enter Tryz.func312,Tryz.ntmps312
  go_wp2_with fail
  go_region
  go_wp2_with fail
  go_region
  go_wp2_with fail
  go_ret
  exact ⟨rfl,hT',Vz⟩
theorem Tb.Eg (h:Tb w b F I B) (n:Int) (hI:0≤I) :
 Calls Tryz.prog 255 #[tp b,.int .i64 n] w fun x w'=>x=.returned (.tuple #[txt (B.take n.toNat),erT (IQ I B n)])∧Tb w' b F I (B.drop n.toNat)∧w.grownBy w' (some b):=by
 have hE:=h.ends
 have hL:=h.len
 have hc0:=h.held
 have Jf:=h.few
 by_cases h0:n<0
 ·have e1:IQ I B n=2:=by unfold IQ;rw [if_pos h0]
  have e2:n.toNat=0:=by omega
  rw [e1,e2,List.take_zero,List.drop_zero]
  go_enter Tryz.func255,Tryz.ntmps255
  go_wp2_with fail
  go_ret2
  exact ⟨rfl,h,World.grownBy.refl _ _⟩
 ·by_cases hz:n=0
  ·subst hz
   go_enter Tryz.func255,Tryz.ntmps255
   go_wp2_with fail
   go_ret2
   exact ⟨rfl,h,World.grownBy.refl _ _⟩
  ·have hnq:(n == 0)=false:=by simp [hz]
   by_cases hB:B=[]
   ·subst hB
    by_cases hI0:0<I
    ·have e1:IQ I [] n=8:=by unfold IQ;rw [if_neg h0,if_neg hz,if_pos ⟨rfl,hI0⟩]
     rw [e1,List.take_nil,List.drop_nil]
     go_enter Tryz.func255,Tryz.ntmps255
     go_wp2_with fail
     refine hL.mono ?_
     rintro x w1 ⟨rfl,hw⟩
     subst w1
     go_wp2_with fail
     refine hE.mono ?_
     rintro x w1 ⟨rfl,q,rfl⟩
     go_wp2_with fail
     go_ret2
     exact ⟨rfl,h.keep rfl,iK _ _ _⟩
    ·have e1:IQ I [] n=0:=by unfold IQ;rw [if_neg h0,if_neg hz,if_neg (fun e=>hI0 e.2)]
     rw [e1,List.take_nil,List.drop_nil]
     go_enter Tryz.func255,Tryz.ntmps255
     go_wp2_with fail
     refine hL.mono ?_
     rintro x w1 ⟨rfl,hw⟩
     subst w1
     go_wp2_with fail
     refine hE.mono ?_
     rintro x w1 ⟨rfl,q,rfl⟩
     go_wp2_with fail
     go_ret2
     exact ⟨rfl,h.keep rfl,iK _ _ _⟩
   ·have hBl:0<B.length:=by cases B with
     |nil=>exact absurd rfl hB
     |cons _ _=>simp
    have e1:IQ I B n=0:=by unfold IQ;rw [if_neg h0,if_neg hz,if_neg (fun e=>hB e.1)]
    have e2:B.take n.toNat=B.take (min n.toNat B.length):=by
     by_cases hm:n.toNat≤B.length
     ·rw [Nat.min_eq_left hm]
     ·rw [Nat.min_eq_right (by omega),List.take_of_length_le (by omega),List.take_of_length_le (by omega)]
    have e3:B.drop n.toNat=B.drop (min n.toNat B.length):=by
     by_cases hm:n.toNat≤B.length
     ·rw [Nat.min_eq_left hm]
     ·rw [Nat.min_eq_right (by omega),List.drop_eq_nil_of_le (by omega),List.drop_eq_nil_of_le (by omega)]
    obtain ⟨m,hm⟩:∃m,min n.toNat B.length=m:=⟨_,rfl⟩
    rw [hm] at e2 e3
    have hT:=h.Wj m (by omega) (by omega)
    rw [e1,e2,e3]
    obtain ⟨K,hK⟩:∃K,B.length=K:=⟨_,rfl⟩
    rw [hK] at hc0 Jf hBl hm hL
    have hKq:((K:Int) == 0)=false:=by simp;omega
    generalize B.take m=T at *
    generalize B.drop m=E at *
    by_cases hnm:n≤(K:Int)
    ·have hm':(m:Int)=n:=by omega
     rw [hm'] at hT
     go_enter Tryz.func255,Tryz.ntmps255
     go_wp2_with fail
     refine hL.mono ?_
     rintro x w1 ⟨rfl,hw⟩
     subst w1
     go_wp2_with fail
     refine hT.mono ?_
     rintro x w1 ⟨rfl,hT',g⟩
     go_wp2_with fail
     go_ret2
     exact ⟨rfl,hT',g⟩
    ·have hm':m=K:=by omega
     rw [hm'] at hT
     go_enter Tryz.func255,Tryz.ntmps255
     go_wp2_with fail
     refine hL.mono ?_
     rintro x w1 ⟨rfl,hw⟩
     subst w1
     go_wp2_with fail
     refine hT.mono ?_
     rintro x w1 ⟨rfl,hT',g⟩
     go_wp2_with fail
     go_ret2
     exact ⟨rfl,hT',g⟩
end
end Go.Proofs.YtippochapiolpaaGreatDoor

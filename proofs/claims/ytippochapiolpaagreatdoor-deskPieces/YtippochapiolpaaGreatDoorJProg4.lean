/- What is plain of processes, besides: for both sides. -/
import Derived.Test.YtippochapiolpaaGreatDoorJAbs
import Derived.Test.YtippochapiolpaaGreatDoorSKeys
import Derived.BigQuiet
import Derived.Outline
import Derived.Sort.LoopGhostIn
import Derived.Deep.Light
import Derived.Test.YtippochapiolpaaGreatDoorShelfP
import Derived.Laws.Bits64b
import Derived.Laws.BitsAllLaws
import Derived.Lib.TrailingZeros
import Derived.Deep.RegionWith
set_option maxHeartbeats 4000000
set_option maxRecDepth 100000
namespace Go.Proofs.YtippochapiolpaaGreatDoor
open Go.RowKit Go.Maps
theorem uq {n:Int}(h:-9223372036854775808≤n∧n≤9223372036854775807):(Lit.int .i64 n).wf=true:=by
 have a:IntKind.min .i64=-9223372036854775808:=rfl
 have b:IntKind.max .i64=9223372036854775807:=rfl
 simp [Lit.wf,a,b]
 omega
theorem nM {P:Program}{ops:Array Oper}{rest:List Oper}{o:Oper}{a:Act}{w:World}{Q:Exit→Act→World→Prop}(hgd:o.guard=none) (s x:Operand) (t k:TypeId)
 (ho:o.op=.call { callee:=.builtin .delete,args:=#[s,x],argTypes:=#[t,k] }) (v y v':Value) (w':World) (hs:a.eval s=v) (hx:a.eval x=y)
 (hr:∀ty,(Builtin.delete_ #[t,k] ty #[v,y]).run P w=.ok v' w') (h:wpList P ops Q rest (a.put o.dst v') w'):wpList P ops Q (o :: rest) a w:=by
 refine wpList_plain hgd fun K hK=>?_
 unfold Oper.wp execOp
 simp only [ho,resolve,invoke,builtin,Sem.run_bind,Sem.run_pure,Result.andThen_ok,List.map_toArray,List.map_cons,List.map_nil,hs,hx,hr]
 exact hK _ _ h
theorem aau (P:Ps) (n:Int) (f g:Pr→Pr):vP (vP P n f) n g=vP P n (fun p=>g (f p)):=by
 funext i
 unfold vP
 by_cases e:i=n
 ·simp only [e,if_true];cases P n<;>rfl
 ·simp only [e,if_false]
theorem RV {P:Ps}{n:Int}{p:Pr}(h:P n=some p) (f:Pr→Pr):vP P n f n=some (f p):=by
 unfold vP;rw [if_pos rfl,h];rfl
theorem Og {f:Int→Bool}{x:Int}(h1:1≤x∧x≤8) (hl:∀y,1≤y→y<x→f y=false) (hx:f x=true):sigs.find? f=some x:=by
 have a:∀y,1≤y→y<x→f y=false:=hl
 unfold sigs
 obtain h|h|h|h|h|h|h|h:x=1∨x=2∨x=3∨x=4∨x=5∨x=6∨x=7∨x=8:=by omega
 all_goals
  subst h
  simp only [List.find?_cons,hx]
  try simp only [a 1 (by omega) (by omega)]
  try simp only [a 2 (by omega) (by omega)]
  try simp only [a 3 (by omega) (by omega)]
  try simp only [a 4 (by omega) (by omega)]
  try simp only [a 5 (by omega) (by omega)]
  try simp only [a 6 (by omega) (by omega)]
  try simp only [a 7 (by omega) (by omega)]
theorem Oe {f:Int→Bool}(hl:∀y,1≤y→y<9→f y=false):sigs.find? f=none:=by
 rw [List.find?_eq_none]
 intro x hx
 unfold sigs at hx
 simp only [List.mem_cons,List.not_mem_nil,or_false] at hx
 rw [hl x (by omega) (by omega)]
 simp
theorem Wz {ks ks':List Int}(h:ks.Pairwise (· < ·)) (h':ks'.Pairwise (· < ·)) (hm:∀x,x∈ks↔x∈ks'):ks=ks':=by
 have p:ks.Perm ks':=(List.perm_ext_iff_of_nodup (h.imp (fun z=>by omega)) (h'.imp (fun z=>by omega))).2 hm
 exact p.eq_of_pairwise (le:=(· < ·)) (fun a b _ _ h1 h2=>by omega) h h'
theorem Wl {ss:List Int}(h:ss.Nodup):(ss.mergeSort (fun x y=>decide (x≤y))).Pairwise (· < ·):=by
 have tr:∀a b c:Int,decide (a≤b)=true→decide (b≤c)=true→decide (a≤c)=true:=fun a b c h1 h2=>by simp only [decide_eq_true_eq] at *;omega
 have tl:∀a b:Int,(decide (a≤b) || decide (b≤a))=true:=fun a b=>by simp only [Bool.or_eq_true,decide_eq_true_eq];omega
 have h1:=List.pairwise_mergeSort tr tl ss
 have h2:(ss.mergeSort (fun x y=>decide (x≤y))).Nodup:=(List.mergeSort_perm ss _).nodup_iff.2 h
 exact h1.imp₂ (fun {a b} h1 h2=>by simp only [decide_eq_true_eq] at h1;omega) h2
theorem bP {B:Nat}{w w':World}(h:Below B w w'):Below B w w'.drew:=⟨h.os,h.tape,h.output,h.size,h.block⟩
def aL (P:Ps):Int:=(((List.range 24).map (fun i:Nat=>(i:Int)+1)).find? (fun n=>!(P n).isSome)).getD 0
theorem wN {P:Ps}{k:Int}(h:uD P k) (Vy:k≤24):aL P=k:=by
 unfold aL
 have hk:=h.pos
 have:((List.range 24).map (fun i:Nat=>(i:Int)+1)).find? (fun n=>!(P n).isSome)=some k:=by
  rw [List.find?_eq_some_iff_getElem]
  refine ⟨by rw [h.no];rfl,(k-1).toNat,by simp;omega,by simp;omega,fun j hj=>?_⟩
  simp only [List.getElem_map,List.getElem_range]
  rw [h.all _ (by omega) (by omega)]
  rfl
 rw [this];rfl
def oq (P:Ps) (pid:Int) (c:Nat):Int:=if lQ P pid c=0 then aL P else 0
def oo (P:Ps) (pid:Int) (c:Nat):Ps:=if lQ P pid c=0 then fU P pid (aL P) else P
section
variable {P:Ps}{pid:Int}
theorem take_add {L:List Int}{i:Nat}(h:i<L.length):L.take (i+1)=L.take i ++ [L[i]]:=by
 rw [List.take_add_one,List.getElem?_eq_getElem h];rfl
end
end Go.Proofs.YtippochapiolpaaGreatDoor
namespace Go.Proofs.YtippochapiolpaaGreatDoor
open Go.RowKit Go.Maps Go.Sort Go.Shelf Go.Lib
def mk (f:Int→Bool):Nat→Nat
 |0=>0
 |k+1=>mk f k ||| (if f (k:Int)=true then 2 ^ k else 0)
theorem R4 (f:Int→Bool):∀k i,(mk f k).testBit i=(decide (i<k) && f i)
 |0,i=>by simp [mk]
 |k+1,i=>by
  rw [mk,Nat.testBit_or,R4 f k i]
  by_cases hf:f (k:Int)=true
  ·rw [if_pos hf,Nat.testBit_two_pow]
   by_cases e:k=i
   ·subst e;simp [hf]
   ·have:(decide (i<k+1))=decide (i<k):=by congr 1;apply propext;omega
    simp [e,this]
  ·rw [if_neg hf,Nat.zero_testBit,Bool.or_false]
   by_cases e:i=k
   ·subst e;simp [hf]
   ·have:(decide (i<k+1))=decide (i<k):=by congr 1;apply propext;omega
    rw [this]
theorem Y5 (f:Int→Bool):∀k,mk f k<2 ^ k
 |0=>by simp [mk]
 |k+1=>by
  rw [mk]
  refine Nat.or_lt_two_pow ?_ ?_
  ·exact Nat.lt_of_lt_of_le (Y5 f k) (Nat.pow_le_pow_right (by omega) (by omega))
  ·split
   ·exact Nat.pow_lt_pow_right (by omega) (by omega)
   ·exact Nat.pow_pos (by omega)
def iV (f:Int→Bool):Nat:=mk f 9
theorem sK (f:Int→Bool):iV f<512:=Y5 f 9
theorem jZ (f:Int→Bool) (i:Nat):(iV f).testBit i=(decide (i<9) && f i):=R4 f 9 i
theorem Jw:iV fI=0:=rfl
def su (s:Int):Int→Bool:=fun i=>decide (i=s)
def pU (f g:Int→Bool):Int→Bool:=fun i=>f i && !g i
theorem Xn {s:Nat}(h:s≤8):iV (su s)=2 ^ s:=by
 apply Nat.eq_of_testBit_eq
 intro i
 rw [jZ,Nat.testBit_two_pow]
 unfold su
 by_cases e:s=i
 ·subst e;simp;omega
 ·have:¬((i:Int)=(s:Int)):=by omega
  simp [e,this]
theorem aaR (f:Int→Bool) (s:Int):iV f ||| iV (su s)=iV (bY f s true):=by
 apply Nat.eq_of_testBit_eq
 intro i
 rw [Nat.testBit_or,jZ,jZ,jZ]
 unfold su bY
 by_cases e:(i:Int)=s<;>by_cases h9:i<9<;>simp [e,h9]
theorem TY (f g:Int→Bool):iV f &&& (18446744073709551615-iV g)=iV (pU f g):=by
 apply Nat.eq_of_testBit_eq
 intro i
 have h1:=sK g
 have h2:18446744073709551615-iV g=2 ^ 64-(iV g+1):=by omega
 rw [Nat.testBit_and,h2,Nat.testBit_two_pow_sub_succ (by omega),jZ,jZ,jZ]
 unfold pU
 by_cases e:i<9
 ·have:i<64:=by omega
  simp [e,this]
 ·simp [e]
theorem TW {f:Int→Bool}(h:iV f=0):sigs.find? f=none:=by
 refine Oe (fun y h1 h2=>?_)
 have:=jZ f y.toNat
 rw [h,Nat.zero_testBit,show ((y.toNat:Nat):Int)=y by omega] at this
 have h9:y.toNat<9:=by omega
 simpa [h9] using this.symm
theorem O6 {f:Int→Bool}(hf:∀s,f s=true→1≤s∧s≤8) (h:iV f≠0):sigs.find? f=some ((ctz 64 (iV f):Nat):Int):=by
 obtain ⟨m,hm,_⟩:=ctzFrom_spec 64 (iV f) (by omega) (by have:=sK f;omega)
 have e:ctzFrom 64 (iV f)=ctz 64 (iV f):=by
  unfold ctz;first|rfl|(rw [if_neg h])
 rw [e] at hm
 generalize ctz 64 (iV f)=k at *
 have hk:(iV f).testBit k=true:=by
  rw [hm,Nat.testBit_two_pow_mul]
  simp
 have hl:∀j,j<k→(iV f).testBit j=false:=fun j hj=>by
  rw [hm,Nat.testBit_two_pow_mul]
  simp;omega
 rw [jZ] at hk
 simp only [Bool.and_eq_true,decide_eq_true_eq] at hk
 have:=hf k hk.2
 refine Og (x:=(k:Int)) (by omega) (fun y h1 h2=>?_) hk.2
 have h3:=hl y.toNat (by omega)
 rw [jZ,show ((y.toNat:Nat):Int)=y by omega] at h3
 have h9:y.toNat<9:=by omega
 simpa [h9] using h3
def ni (w:World):Prop:=TabAt 8 Lib.deBruijn64tab w
theorem ni.lt {w:World}(h:ni w):8<w.heap.size:=World.block_lt_of_cell? w _ (h 0 (by decide))
theorem ni.keep {w w':World}(h:ni w) (hb:w'.heap[8]? = w.heap[8]?):ni w':=fun j hj=>by
 rw [World.cell?_of_block (w:=w) (a:=⟨8,j,none⟩) hb];exact h j hj
abbrev mv (f:Int→Bool):Value:=.int .u64 ((iV f:Nat):Int)
theorem Em (w:World) (s:Int) (hs:1≤s∧s≤8):Calls Tryz.prog 199 #[.int .i64 s] w fun e w'=>e=.returned (mv (su s))∧w'=w:=by
 have h:iV (su s)=2 ^ s.toNat:=by
  have:=Xn (s:=s.toNat) (by omega)
  rw [show ((s.toNat:Nat):Int)=s by omega] at this
  exact this
 unfold mv
 rw [h]
 obtain h|h|h|h|h|h|h|h:s=1∨s=2∨s=3∨s=4∨s=5∨s=6∨s=7∨s=8:=by omega
 all_goals
  subst h
  go_enter Tryz.func199,Tryz.ntmps199
  go_wp2_with fail
  go_ret
  exact ⟨by first|rfl|simp,rfl⟩
theorem LH (w:World) (f:Int→Bool) (s:Int) (hs:1≤s∧s≤8):Calls Tryz.prog 232 #[mv f,.int .i64 s] w fun e w'=>e=.returned (mv (bY f s true))∧w'=w:=by
 have hO:=Em w s hs
 have h1:=sK f
 have h2:=sK (su s)
 have hb:=bits_or_u64_nat (iV f) (iV (su s)) (by omega) (by omega)
 rw [aaR] at hb
 unfold mv at *
 generalize iV (bY f s true)=r at *
 generalize iV (su s)=o at *
 generalize iV f=m at *
 go_enter Tryz.func232,Tryz.ntmps232
 go_wp2_with (go_at_call 199;refine hO.mono ?_;rintro e w1 ⟨rfl,hw⟩;subst w1)
 go_ret
 exact ⟨by first|rfl|rw [hb],rfl⟩
theorem mi (w:World) (f g:Int→Bool):Calls Tryz.prog 198 #[mv f,mv g] w fun e w'=>e=.returned (mv (pU f g))∧w'=w:=by
 have h1:=sK f
 have h2:=sK g
 have hb:=u64_andNot_nat (iV f) (iV g) (by omega) (by omega)
 rw [TY] at hb
 unfold mv at *
 generalize iV (pU f g)=r at *
 generalize iV g=o at *
 generalize iV f=m at *
 go_enter Tryz.func198,Tryz.ntmps198
 go_wp2_with fail
 go_ret
 exact ⟨by first|rfl|rw [hb],rfl⟩
theorem Pm (w:World) (f:Int→Bool) (hf:∀s,f s=true→1≤s∧s≤8) (hT:ni w):Calls Tryz.prog 197 #[mv f] w fun e w'=>e=.returned (.int .i64 ((sigs.find? f).getD 0))∧w'=w:=by
 have hlt:=sK f
 by_cases h0:iV f=0
 ·rw [TW h0]
  unfold mv
  rw [h0]
  go_enter Tryz.func197,Tryz.ntmps197
  go_wp2_with fail
  go_ret
  exact ⟨rfl,rfl⟩
 ·rw [O6 hf h0]
  have hC:=Any7.bits_TrailingZeros Tryz.tzL (iV f) (by omega) w (fun _=>hT)
  change Calls Tryz.prog 206 _ _ _ at hC
  unfold mv
  generalize ctz 64 (iV f)=r at *
  generalize iV f=m at *
  have hm:((m:Int) == 0)=false:=by simpa using h0
  have hm2:¬(m:Int)=0:=by omega
  go_enter Tryz.func197,Tryz.ntmps197
  go_wp2_with (go_at_call 206;refine hC.mono ?_;rintro e w1 ⟨rfl,hw⟩;subst w1)
  go_ret
  exact ⟨rfl,rfl⟩
end Go.Proofs.YtippochapiolpaaGreatDoor
namespace Go.Proofs.YtippochapiolpaaGreatDoor
open Go.RowKit Go.Maps Go.Sort
def Ni (p:Pr):Int→Bool:=if p.state=1 then p.ig else fI
abbrev qv (p:Pr):Value:=.agg #[.int .i64 p.state,.int .i64 p.parent,.int .i64 p.code,mv p.wt,mv (Ni p)]
abbrev qv0:Value:=.agg #[.int .i64 0,.int .i64 0,.int .i64 0,.int .u64 0,.int .u64 0]
theorem Z5 (w:World):(zeroValue 126).run Tryz.prog w=.ok qv0 w:=by kernel_rfl
theorem VH (a b c d e:Int) (w:World):(Instr.field 126 (.agg #[.int .i64 a,.int .i64 b,.int .i64 c,.int .u64 d,.int .u64 e]) 0).run Tryz.prog w=.ok (.int .i64 a) w∧(Instr.field 126 (.agg #[.int .i64 a,.int .i64 b,.int .i64 c,.int .u64 d,.int .u64 e]) 1).run Tryz.prog w=.ok (.int .i64 b) w∧(Instr.field 126 (.agg #[.int .i64 a,.int .i64 b,.int .i64 c,.int .u64 d,.int .u64 e]) 2).run Tryz.prog w=.ok (.int .i64 c) w∧(Instr.field 126 (.agg #[.int .i64 a,.int .i64 b,.int .i64 c,.int .u64 d,.int .u64 e]) 4).run Tryz.prog w=.ok (.int .u64 e) w:=by
 refine ⟨?_,?_,?_,?_⟩<;>kernel_rfl
structure JD (P:Ps):Prop where
 Bh:∀n p,P n=some p→∀s,p.wt s=true→p.ig s=false
 dead:∀n p,P n=some p→p.state=2→p.wt=fI
structure QM (w:World) (t g:Nat) (P:Ps) (c:Nat):Prop where
 head:w.heap[t]? = some (.cells #[.map (some g)] 129)
 map:aK w g c (fun n=>(P n).map qv)
 key:∀n p,P n=some p→1≤n∧n≤24
structure QJ (w:World) (t g:Nat) (P:Ps) (c:Nat):Prop extends QM w t g P c where
 ok:pX P
 dj:JD P
section
variable {w w':World}{t g c:Nat}{P:Ps}{n m:Int}{p:Pr}
theorem QM.Zr (h:QM w t g P c):t<w.heap.size:=by
 rcases Nat.lt_or_ge t w.heap.size with z|z
 ·exact z
 ·have:=h.head;rw [Array.getElem?_eq_none (by omega)] at this;cases this
theorem QM.gt (h:QM w t g P c):g≠t:=fun e=>by
 obtain ⟨es,cl,hm⟩:=h.map.isMap
 rw [e,h.head] at hm;cases hm
theorem QM.keep (h:QM w t g P c) (h1:w'.heap[t]? = w.heap[t]?) (h2:w'.heap[g]? = w.heap[g]?):QM w' t g P c:=⟨h1.trans h.head,h.map.keep h2,h.key⟩
theorem QM.below (h:QM w t g P c) (hb:Below w.heap.size w w'):QM w' t g P c:=h.keep (hb.block t h.Zr) (hb.block g h.map.lt)
theorem QM.c0 (h:QM w t g P c):w.cell? ⟨t,0,none⟩=some (.map (some g)):=by rw [cell_of_row _ _ _ _ _ _ h.head];rfl
theorem QM.num (h:QM w t g P c):p9 P c:=h.map.isN.congr (fun x=>by cases P x<;>rfl)
theorem QM.few (h:QM w t g P c):c≤24:=by
 have:=h.num.few (B:=24) (by omega) (fun x hx=>by
  obtain ⟨p,hp⟩:=Option.isSome_iff_exists.1 hx
  have:=h.key x p hp;omega)
 omega
theorem QM.look (h:QM w t g P c) (n:Int) (hn:(Lit.int .i64 n).wf=true):(Instr.lookup 127 (.map (some g)) (.int .i64 n) false).run Tryz.prog w=.ok (match P n with|some p=>qv p|none=>qv0) w:=by
 rw [h.map.look Tryz.underlying127 (Z5 _) n hn]
 cases P n<;>rfl
theorem QM.xu (h:QM w t g P c) (hp:P n=some p) (hn:(Lit.int .i64 n).wf=true):(Instr.lookup 127 (.map (some g)) (.int .i64 n) false).run Tryz.prog w=.ok (.agg #[.int .i64 p.state,.int .i64 p.parent,.int .i64 p.code,.int .u64 ((iV p.wt:Nat):Int),.int .u64 ((iV (Ni p):Nat):Int)]) w:=by
 rw [h.look n hn,hp]
def qF (P:Ps) (n:Int):Int×Int×Int×Nat×Nat:=match P n with|some p=>(p.state,p.parent,p.code,iV p.wt,iV (Ni p)) | none=>(0,0,0,0,0)
theorem ac9:(qF P n).1=nN P n:=by unfold qF;cases h:P n with|none=>rw [lY h] | some p=>rw [kG h]
theorem aak:(qF P n).2.1=xR P n:=by unfold qF;cases h:P n with|none=>rw [OT h] | some p=>rw [oP h]
theorem QM.ado (h:QM w t g P c) (n:Int) (hn:(Lit.int .i64 n).wf=true):(Instr.lookup 127 (.map (some g)) (.int .i64 n) false).run Tryz.prog w=.ok (.agg #[.int .i64 (qF P n).1,.int .i64 (qF P n).2.1,.int .i64 (qF P n).2.2.1,.int .u64 ((qF P n).2.2.2.1:Nat),.int .u64 ((qF P n).2.2.2.2:Nat)]) w:=by
 rw [h.look n hn]
 unfold qF
 cases P n<;>rfl
theorem QM.xw (h:QM w t g P c) (n:Int) (hn:(Lit.int .i64 n).wf=true):Calls Tryz.prog 196 #[wp t,.int .i64 n] w fun e w'=>e=.returned (.agg #[.int .i64 (qF P n).1,.int .i64 (qF P n).2.1,.int .i64 (qF P n).2.2.1,.int .u64 ((qF P n).2.2.2.1:Nat),.int .u64 ((qF P n).2.2.2.2:Nat)])∧Below w.heap.size w w':=by
 have hA:∀o,Below w.heap.size w (w.alloc o):=fun o=>(Below.refl _ w).alloc (Nat.le_refl _) o
 have hl:∀o,(Instr.lookup 127 (.map (some g)) (.int .i64 n) false).run Tryz.prog (w.alloc o)=_:=fun o=>(h.below (hA o)).ado n hn
 have c0:∀o,(w.alloc o).cell? ⟨t,0,none⟩=some (.map (some g)):=fun o=>(h.below (hA o)).c0
 have hlt:=h.Zr
 generalize (qF P n).1=x1 at *
 generalize (qF P n).2.1=x2 at *
 generalize (qF P n).2.2.1=x3 at *
 generalize (qF P n).2.2.2.1=x4 at *
 generalize (qF P n).2.2.2.2=x5 at *
 go_enter Tryz.func196,Tryz.ntmps196
 go_wp2_with fail
 refine bodyPost_ret (v:=.agg #[.int .i64 x1,.int .i64 x2,.int .i64 x3,.int .u64 (x4:Int),.int .u64 (x5:Int)]) (by simp [results,Tryz.results196,go_sem]) rfl ⟨rfl,?_⟩
 repeat first|exact Below.refl _ _|refine Below.alloc ?_ (by first|omega|(simp<;>omega)) _|refine Below.setCell ?_ (by first|omega|(simp<;>omega)) _
theorem QM.state (h:QM w t g P c) (n:Int) (hn:(Lit.int .i64 n).wf=true):Calls Tryz.prog 147 #[wp t,.int .i64 n] w fun e w'=>e=.returned (.int .i64 (nN P n))∧Below w.heap.size w w':=by
 have hC:=h.xw n hn
 rw [←ac9]
 have hf:=fun W=>(VH (qF P n).1 (qF P n).2.1 (qF P n).2.2.1 ((qF P n).2.2.2.1:Nat) ((qF P n).2.2.2.2:Nat) W).1
 generalize (qF P n).1=x1 at *
 generalize (qF P n).2.1=x2 at *
 generalize (qF P n).2.2.1=x3 at *
 generalize (qF P n).2.2.2.1=x4 at *
 generalize (qF P n).2.2.2.2=x5 at *
 go_enter Tryz.func147,Tryz.ntmps147
 go_wp2_with (go_at_call 196;refine hC.mono ?_;rintro e w1 ⟨rfl,hb⟩)
 go_ret
 exact ⟨rfl,hb⟩
theorem QM.parent (h:QM w t g P c) (n:Int) (hn:(Lit.int .i64 n).wf=true):Calls Tryz.prog 281 #[wp t,.int .i64 n] w fun e w'=>e=.returned (.int .i64 (xR P n))∧Below w.heap.size w w':=by
 have hC:=h.xw n hn
 rw [←aak]
 have hf:=fun W=>(VH (qF P n).1 (qF P n).2.1 (qF P n).2.2.1 ((qF P n).2.2.2.1:Nat) ((qF P n).2.2.2.2:Nat) W).2.1
 generalize (qF P n).1=x1 at *
 generalize (qF P n).2.1=x2 at *
 generalize (qF P n).2.2.1=x3 at *
 generalize (qF P n).2.2.2.1=x4 at *
 generalize (qF P n).2.2.2.2=x5 at *
 go_enter Tryz.func281,Tryz.ntmps281
 go_wp2_with (go_at_call 196;refine hC.mono ?_;rintro e w1 ⟨rfl,hb⟩)
 go_ret
 exact ⟨rfl,hb⟩
theorem QM.runs (h:QM w t g P c) (n:Int) (hn:(Lit.int .i64 n).wf=true):Calls Tryz.prog 227 #[wp t,.int .i64 n] w fun e w'=>e=.returned (aI (if aD P n=true then 0 else 7))∧Below w.heap.size w w':=by
 have hC:=h.state n hn
 cases nO:aD P n with
 |true=>
  have hs:nN P n=1:=by unfold aD at nO;simpa using nO
  rw [hs] at hC
  rw [if_pos rfl,aB]
  go_enter Tryz.func227,Tryz.ntmps227
  go_wp2_with (go_at_call 147;refine hC.mono ?_;rintro e w1 ⟨rfl,hb⟩)
  go_ret
  exact ⟨rfl,hb⟩
 |false=>
  have hs:nN P n≠1:=by unfold aD at nO;simpa using nO
  rw [if_neg (by simp),ax (by omega)]
  have hs':(nN P n == 1)=false:=by simpa using hs
  generalize nN P n=s at *
  go_enter Tryz.func227,Tryz.ntmps227
  go_wp2_with (go_at_call 147;refine hC.mono ?_;rintro e w1 ⟨rfl,hb⟩)
  go_ret
  exact ⟨rfl,hb⟩
theorem QJ.below (h:QJ w t g P c) (hb:Below w.heap.size w w'):QJ w' t g P c:=⟨h.toQM.below hb,h.ok,h.dj⟩
end
theorem WT {P:Ps}{n:Int}{p:Pr}(hp:P n=some p) (f:Pr→Pr):vP P n f=nZ P n (f p):=by
 funext i
 unfold vP nZ
 by_cases e:i=n
 ·subst e;rw [if_pos rfl,if_pos rfl,hp];rfl
 ·rw [if_neg e,if_neg e]
theorem wE {P:Ps}{n i:Int}{p q:Pr}(h:nZ P n p i=some q):(i=n∧q=p)∨(i≠n∧P i=some q):=by
 unfold nZ at h
 split at h
 ·rename_i e;exact .inl ⟨e,(Option.some.inj h).symm⟩
 ·rename_i e;exact .inr ⟨e,h⟩
abbrev Vl (g:Nat) (w w':World):Prop:=Wt (fun i=>i=g) w w'
def Fw (w:World) (t g:Nat) (P':Ps) (w':World):Prop:=∃c',QJ w' t g P' c'∧Vl g w w'
section
variable {w w' V:World}{t g c:Nat}{P:Ps}{n m sig pid:Int}{p:Pr}
theorem Vl.ofB (hb:Below w.heap.size w w'):Vl g w w':=.below _ hb
theorem Fw.same (h:QJ w t g P c) (hb:Below w.heap.size w w'):Fw w t g P w':=⟨c,h.below hb,.ofB hb⟩
theorem QM.put (h:QM w t g P c) (hV:Below w.heap.size w V) (n:Int) (hn:1≤n∧n≤24) (p:Pr):∃w5,(Instr.mapUpdate 127 (.map (some g)) (.int .i64 n) (qv p)).run Tryz.prog V=.ok () w5∧QM w5 t g (nZ P n p) (if (P n).isSome then c else c+1)∧Vl g w w5:=by
 have hc:=h.few
 have hv:=h.below hV
 obtain ⟨w5,hrun,m5,g5⟩:=hv.map.put Tryz.underlying127 (by unfold maxLen;omega) n (uq (by omega)) (qv p)
 have hM:(fun i=>if i=n then some (qv p) else (P i).map qv)=fun i=>(nZ P n p i).map qv:=by
  funext i;unfold nZ;split<;>rfl
 rw [hM,Option.isSome_map] at m5
 refine ⟨w5,hrun,⟨(g5.block t hv.Zr (fun z=>h.gt (Option.some.inj z).symm)).trans hv.head,m5,fun i q e=>?_⟩,?_⟩
 ·rcases wE e with ⟨rfl,_⟩|⟨_,e⟩
  ·exact hn
  ·exact h.key i q e
 ·exact (Wt.below _ hV).trans (.grown g5 rfl)
theorem JD.first:JD gW:=by
 have hh:∀n p,gW n=some p→p=⟨0,1,0,fI,fI⟩:=fun n p e=>by
  unfold gW at e
  split at e
  ·exact (Option.some.inj e).symm
  ·cases e
 refine ⟨fun n p e s z=>?_,fun n p e z=>?_⟩
 ·have:=hh n p e;subst this;cases z
 ·have:=hh n p e;subst this;rfl
theorem JD.set (h:JD P) (h1:∀s,p.wt s=true→p.ig s=false) (h2:p.state=2→p.wt=fI):JD (nZ P n p):=by
 refine ⟨fun i q e s z=>?_,fun i q e z=>?_⟩
 ·rcases wE e with ⟨_,rfl⟩|⟨_,e⟩
  ·exact h1 s z
  ·exact h.Bh i q e s z
 ·rcases wE e with ⟨_,rfl⟩|⟨_,e⟩
  ·exact h2 z
  ·exact h.dead i q e z
theorem QJ.turn (h:QJ w t g P c) (hV:Below w.heap.size w V) (hp:P n=some p) (f:Pr→Pr) (ok:pX (vP P n f)) (h1:∀s,(f p).wt s=true→(f p).ig s=false) (h2:(f p).state=2→(f p).wt=fI):∃w5,(Instr.mapUpdate 127 (.map (some g)) (.int .i64 n) (qv (f p))).run Tryz.prog V=.ok () w5∧Fw w t g (vP P n f) w5:=by
 obtain ⟨w5,hrun,m5,s5⟩:=h.toQM.put hV n (h.key n p hp) (f p)
 rw [WT hp] at *
 exact ⟨w5,hrun,_,⟨m5,ok,h.dj.set h1 h2⟩,s5⟩
theorem xI (w:World) (x:Int):Calls Tryz.prog 231 #[.int .i64 x] w fun e w'=>e=.returned (.bool (decide (1≤x) && decide (x≤8)))∧w'=w:=by
 by_cases h1:1≤x<;>by_cases h2:x≤8
 all_goals
  simp only [h1,h2,decide_true,decide_false,Bool.and_true,Bool.and_false]
  go_enter Tryz.func231,Tryz.ntmps231
  go_wp2_with fail
  go_ret
  exact ⟨rfl,rfl⟩
theorem yt (h:p.state=1):Ni p=p.ig:=if_pos h
theorem Pq (hd:∀s,p.wt s=true→p.ig s=false) (sig:Int):pU (bY p.wt sig true) p.ig=if p.ig sig=true then p.wt else bY p.wt sig true:=by
 funext i
 unfold pU bY
 by_cases e:i=sig
 ·subst e
  cases hi:p.ig i with
  |true=>
   have:p.wt i=false:=by cases hw:p.wt i with|false=>rfl|true=>have:=hd i hw;rw [hi] at this;cases this
   simp [this]
  |false=>simp
 ·have hz:(p.wt i && !p.ig i)=p.wt i:=by
   cases hw:p.wt i with
   |false=>rfl
   |true=>rw [hd i hw];rfl
  rw [if_neg e,hz]
  split<;>simp [e]
theorem QJ.kill (h:QJ w t g P c) (n sig:Int) (hn:(Lit.int .i64 n).wf=true):Calls Tryz.prog 163 #[wp t,.int .i64 n,.int .i64 sig] w fun e w'=>e=.returned (aI (eX P n sig))∧Fw w t g (if eX P n sig=0 then kC P n sig else P) w':=by
 have hin:=xI w sig
 have hr:=h.toQM.runs n hn
 by_cases hs:1≤sig∧sig≤8
 ·rw [decide_eq_true hs.1,decide_eq_true hs.2] at hin
  simp only [Bool.and_self] at hin
  cases nO:aD P n with
  |false=>
   rw [nO,if_neg (by simp),ax (by omega)] at hr
   have hE:eX P n sig=7:=by unfold eX;rw [if_neg (by omega),nO];rfl
   rw [hE,if_neg (by omega),ax (by omega)]
   go_enter Tryz.func163,Tryz.ntmps163
   go_wp2_with (first
    |(go_at_call 231;refine hin.mono ?_;rintro e w1 ⟨rfl,hw⟩;subst w1)
    |(go_at_call 227;refine hr.mono ?_;rintro e w1 ⟨rfl,hb⟩))
   go_ret
   exact ⟨rfl,.same h hb⟩
  |true=>
   rw [nO,if_pos rfl,aB] at hr
   have hE:eX P n sig=0:=by unfold eX;rw [if_neg (by omega),nO];rfl
   rw [hE,if_pos rfl,aB]
   obtain ⟨p,hp,hst⟩:=dA.1 nO
   have hd:=h.dj.Bh n p hp
   have hig:=yt hst
   have hkl:=Pq hd sig
   have hwi:=fun W=>LH W p.wt sig hs
   have hwo:=fun W=>mi W (bY p.wt sig true) p.ig
   rw [hkl] at hwo
   have hput:=fun V hV=>@QJ.turn w V t g c P n p h hV hp (fun p=>if p.ig sig=true then p else { p with wt:=bY p.wt sig true }) (h.ok.kill hs) (fun s z=>by
    by_cases hi:p.ig sig=true
    ·simp only [if_pos hi] at z ⊢;exact hd s z
    ·simp only [if_neg hi] at z ⊢
     rcases jP z with ⟨rfl,_⟩|z
     ·simpa using hi
     ·exact hd s z) (fun z=>by
    by_cases hi:p.ig sig=true
    ·simp only [if_pos hi] at z;omega
    ·simp only [if_neg hi] at z;omega)
   have hq:qv (if p.ig sig=true then p else { p with wt:=bY p.wt sig true })=.agg #[.int .i64 1,.int .i64 p.parent,.int .i64 p.code,mv (if p.ig sig=true then p.wt else bY p.wt sig true),mv p.ig]:=by
    by_cases hi:p.ig sig=true
    ·rw [if_pos hi,if_pos hi];unfold qv;rw [hig,hst]
    ·rw [if_neg hi,if_neg hi];unfold qv Ni;simp only [hst,if_true]
   simp only [hq] at hput
   have QO:Aside _:=hput
   have hlo:=fun V (hV:Below w.heap.size w V)=>(h.toQM.below hV).xu hp hn
   rw [hst,hig] at hlo
   have hco:=fun V (hV:Below w.heap.size w V)=>(h.toQM.below hV).c0
   have HLO:Aside _:=hlo
   have I5:Aside _:=hco
   clear hput hq hkl hig hd hlo hco
   generalize (if p.ig sig=true then p.wt else bY p.wt sig true)=f2 at *
   generalize hf1:bY p.wt sig true=f1 at *
   clear hf1
   go_enter Tryz.func163,Tryz.ntmps163
   go_upto_region 6 with (first
    |(go_at_call 231;refine hin.mono ?_;rintro e w1 ⟨rfl,hw⟩;subst w1)
    |(go_at_call 227;refine hr.mono ?_;rintro e w1 ⟨rfl,hb⟩))
   have c1:=I5.out w1 hb
   have l1:=HLO.out w1 hb
   go_upto_region 7 with fail
   clear c1 l1
   go_region_with (first
    |(go_at_call 232;refine (hwi _).mono ?_;rintro e w2 ⟨rfl,hw⟩;subst w2)
    |(go_at_call 198;refine (hwo _).mono ?_;rintro e w2 ⟨rfl,hw⟩;subst w2))
   all_goals
    have hA:Below w.heap.size w (w1.alloc (.cells #[.int .i64 1,.int .i64 p.parent,.int .i64 p.code,.int .u64 ((iV f2:Nat):Int),.int .u64 ((iV p.ig:Nat):Int)] 126)):=hb.alloc hb.size _
    obtain ⟨w5,hrun,h5⟩:=QO.out _ (bP (bP hA))
    have c2:=I5.out _ (bP hA)
    clear hA hwi hwo hr hin
    go_upto_region 8 with fail
    go_region
    all_goals
     go_wp2_with fail
     go_ret
     exact ⟨rfl,h5⟩
 ·have hE:eX P n sig=2:=by unfold eX;rw [if_pos hs]
  rw [hE,if_neg (by omega),ax (by omega)]
  have hb:(decide (1≤sig) && decide (sig≤8))=false:=by
   rw [Bool.and_eq_false_iff,decide_eq_false_iff_not,decide_eq_false_iff_not];omega
  rw [hb] at hin
  go_enter Tryz.func163,Tryz.ntmps163
  go_wp2_with (go_at_call 231;refine hin.mono ?_;rintro e w1 ⟨rfl,hw⟩;subst w1)
  go_ret
  exact ⟨rfl,.same h (Below.refl _ _)⟩
end
section
variable {w w' V:World}{t g c:Nat}{P:Ps}{n m sig pid:Int}{p:Pr}
theorem TS (w:World):Calls Tryz.prog 20 #[] w fun e w'=>∃t g,e=.returned (wp t)∧QJ w' t g gW 1∧Below w.heap.size w w'∧w.heap.size≤t∧w.heap.size≤g:=by
 have hmm:=@run_makeMap Tryz.prog
 have p0:aK (w.alloc (.map #[] 0)) w.heap.size 0 (fun _=>none):=aK.made w
 have hsz:(w.alloc (.map #[] 0)).heap.size=w.heap.size+1:=by show (w.heap.push _).size=_;rw [Array.size_push]
 have bA:Below w.heap.size w (w.alloc (.map #[] 0)):=(Below.refl _ w).alloc (Nat.le_refl _) _
 obtain ⟨w1,hrun,q0,g1⟩:=p0.put Tryz.underlying127 (by unfold maxLen;omega) 1 (by decide) (.agg #[.int .i64 1,.int .i64 0,.int .i64 0,.int .u64 0,.int .u64 0])
 have b1:Below w.heap.size w w1:=⟨g1.os.trans bA.os,g1.tape.trans bA.tape,g1.output.trans bA.output,Nat.le_trans bA.size g1.size,fun i hi=>(g1.block i (by rw [hsz];omega) (fun e=>by have:=Option.some.inj e;omega)).trans (bA.block i hi)⟩
 have hz1:w.heap.size+1≤w1.heap.size:=by have:=g1.size;rw [hsz] at this;exact this
 have hfin:QJ (w1.alloc (.cells #[.map (some w.heap.size)] 129)) w1.heap.size w.heap.size gW 1:=by
  refine ⟨⟨?_,?_,pX.first.key⟩,.first,.first⟩
  ·show (w1.heap.push _)[w1.heap.size]? = _
   rw [Array.getElem?_push,if_pos rfl]
  ·have e:(fun i=>if i=(1:Int) then some (Value.agg #[.int .i64 1,.int .i64 0,.int .i64 0,.int .u64 0,.int .u64 0]) else (fun _=>none) i)=fun n=>(gW n).map qv:=by
    funext i;unfold gW
    by_cases e:i=1
    ·simp only [e,if_true,Option.map_some];rfl
    ·simp [e]
   rw [←e]
   exact q0.keep (Below.heap_alloc _ _ _ q0.lt)
 have b2:Below w.heap.size w (w1.alloc (.cells #[.map (some w.heap.size)] 129)):=b1.alloc b1.size _
 clear q0 p0 g1 bA b1 hsz
 go_enter Tryz.func20,Tryz.ntmps20
 go_wp2_with fail
 go_ret
 exact ⟨w1.heap.size,w.heap.size,rfl,hfin,b2,by omega,Nat.le_refl _⟩
theorem aaZ (hd:∀s,p.wt s=true→p.ig s=false) (sig:Int):pU p.wt (bY p.ig sig true)=bY p.wt sig false:=by
 funext i
 unfold pU bY
 by_cases e:i=sig
 ·simp [e]
 ·rw [if_neg e,if_neg e]
  cases hw:p.wt i with
  |false=>rfl
  |true=>rw [hd i hw];rfl
theorem GD (f:Int→Bool) (sig:Int):pU f (su sig)=bY f sig false:=by
 funext i
 unfold pU bY su
 by_cases e:i=sig<;>simp [e]
theorem XM (hd:∀s,p.wt s=true→p.ig s=false) (sig:Int):pU p.wt (bY p.ig sig false)=p.wt:=by
 funext i
 unfold pU bY
 cases hw:p.wt i with
 |false=>rfl
 |true=>rw [hd i hw];simp
theorem QJ.ignore (h:QJ w t g P c) (n sig:Int) (on:Bool) (hn:(Lit.int .i64 n).wf=true):Calls Tryz.prog 162 #[wp t,.int .i64 n,.int .i64 sig,.bool on] w fun e w'=>e=.returned (aI (bN P n sig))∧Fw w t g (if bN P n sig=0 then fH P n sig on else P) w':=by
 have hin:=xI w sig
 have hr:=h.toQM.runs n hn
 by_cases hs:1≤sig∧sig≤8
 ·rw [decide_eq_true hs.1,decide_eq_true hs.2] at hin
  simp only [Bool.and_self] at hin
  cases nO:aD P n with
  |false=>
   rw [nO,if_neg (by simp),ax (by omega)] at hr
   have hE:bN P n sig=7:=by unfold bN;rw [if_neg (by omega),nO];rfl
   rw [hE,if_neg (by omega),ax (by omega)]
   go_enter Tryz.func162,Tryz.ntmps162
   go_wp2_with (first
    |(go_at_call 231;refine hin.mono ?_;rintro e w1 ⟨rfl,hw⟩;subst w1)
    |(go_at_call 227;refine hr.mono ?_;rintro e w1 ⟨rfl,hb⟩))
   go_ret
   exact ⟨rfl,.same h hb⟩
  |true=>
   rw [nO,if_pos rfl,aB] at hr
   by_cases h8:sig=8
   ·have hE:bN P n sig=6:=by unfold bN;rw [if_neg (by omega),nO,if_pos h8];rfl
    rw [hE,if_neg (by omega),ax (by omega)]
    subst h8
    go_enter Tryz.func162,Tryz.ntmps162
    go_wp2_with (first
     |(go_at_call 231;refine hin.mono ?_;rintro e w1 ⟨rfl,hw⟩;subst w1)
     |(go_at_call 227;refine hr.mono ?_;rintro e w1 ⟨rfl,hb⟩))
    go_ret
    exact ⟨rfl,.same h hb⟩
   ·have hE:bN P n sig=0:=by unfold bN;rw [if_neg (by omega),nO,if_neg h8];rfl
    rw [hE,if_pos rfl,aB]
    have h8b:(sig == 8)=false:=by simpa using h8
    obtain ⟨p,hp,hst⟩:=dA.1 nO
    have hd:=h.dj.Bh n p hp
    have hig:=yt hst
    have hput:=fun V hV=>@QJ.turn w V t g c P n p h hV hp (fun p=>{ p with ig:=bY p.ig sig on,wt:=if on=true then bY p.wt sig false else p.wt }) (h.ok.ignore (by omega) on) (fun s z=>by
     cases on with
     |true=>
      simp only [if_true] at z
      rcases jP z with ⟨_,z⟩|z
      ·cases z
      ·have hne:s≠sig:=fun e=>by subst e;unfold bY at *;simp at *
       show bY p.ig sig true s=false
       unfold bY;rw [if_neg hne];exact hd s z
     |false=>
      simp only [Bool.false_eq_true,if_false] at z
      show bY p.ig sig false s=false
      unfold bY;split
      ·rfl
      ·exact hd s z) (fun z=>by simp only at z;omega)
    have hlo:=fun V (hV:Below w.heap.size w V)=>(h.toQM.below hV).xu hp hn
    rw [hst,hig] at hlo
    have hco:=fun V (hV:Below w.heap.size w V)=>(h.toQM.below hV).c0
    have HLO:Aside _:=hlo
    have I5:Aside _:=hco
    clear hlo hco
    cases on with
    |true=>
     have hwi:=fun W=>LH W p.ig sig hs
     have hwo:=fun W=>mi W p.wt (bY p.ig sig true)
     rw [aaZ hd] at hwo
     have hq:qv { p with ig:=bY p.ig sig true,wt:=if true=true then bY p.wt sig false else p.wt }=.agg #[.int .i64 1,.int .i64 p.parent,.int .i64 p.code,mv (bY p.wt sig false),mv (bY p.ig sig true)]:=by
      unfold qv Ni;simp only [hst,if_true]
     have QO:Aside (∀V,Below w.heap.size w V→∃w5,(Instr.mapUpdate 127 (.map (some g)) (.int .i64 n) (.agg #[.int .i64 1,.int .i64 p.parent,.int .i64 p.code,mv (bY p.wt sig false),mv (bY p.ig sig true)])).run Tryz.prog V=.ok () w5∧Fw w t g (fH P n sig true) w5):=fun V hV=>by
      obtain ⟨w5,a,b⟩:=hput V hV
      refine ⟨w5,?_,b⟩
      rw [←hq];exact a
     clear hput hq hig hd
     generalize fH P n sig true=P2 at *
     generalize bY p.wt sig false=f2 at *
     generalize bY p.ig sig true=f1 at *
     go_enter Tryz.func162,Tryz.ntmps162
     go_upto_region 8 with (first
      |(go_at_call 231;refine hin.mono ?_;rintro e w1 ⟨rfl,hw⟩;subst w1)
      |(go_at_call 227;refine hr.mono ?_;rintro e w1 ⟨rfl,hb⟩))
     have c1:=I5.out w1 hb
     have l1:=HLO.out w1 hb
     have hA:Below w.heap.size w (w1.alloc (.cells #[.int .i64 1,.int .i64 p.parent,.int .i64 p.code,.int .u64 ((iV f2:Nat):Int),.int .u64 ((iV f1:Nat):Int)] 126)):=hb.alloc hb.size _
     obtain ⟨w5,hrun,h5⟩:=QO.out _ (bP hA)
     have c2:=I5.out _ hA
     clear hA hr hin
     go_upto_region 13 with (first
      |(go_at_call 232;refine (hwi _).mono ?_;rintro e w2 ⟨rfl,hw⟩;subst w2)
      |(go_at_call 198;refine (hwo _).mono ?_;rintro e w2 ⟨rfl,hw⟩;subst w2))
     go_region
     all_goals
      go_wp2_with fail
      go_ret
      exact ⟨rfl,h5⟩
    |false=>
     have hon:=fun W=>Em W sig hs
     have ZR:=fun W=>mi W p.ig (su sig)
     rw [GD] at ZR
     have hwo:=fun W=>mi W p.wt (bY p.ig sig false)
     rw [XM hd] at hwo
     have hq:qv { p with ig:=bY p.ig sig false,wt:=if false=true then bY p.wt sig false else p.wt }=.agg #[.int .i64 1,.int .i64 p.parent,.int .i64 p.code,mv p.wt,mv (bY p.ig sig false)]:=by
      unfold qv Ni;simp only [hst,if_true,Bool.false_eq_true,if_false]
     have QO:Aside (∀V,Below w.heap.size w V→∃w5,(Instr.mapUpdate 127 (.map (some g)) (.int .i64 n) (.agg #[.int .i64 1,.int .i64 p.parent,.int .i64 p.code,mv (p.wt),mv (bY p.ig sig false)])).run Tryz.prog V=.ok () w5∧Fw w t g (fH P n sig false) w5):=fun V hV=>by
      obtain ⟨w5,a,b⟩:=hput V hV
      refine ⟨w5,?_,b⟩
      rw [←hq];exact a
     clear hput hq hig hd
     generalize fH P n sig false=P2 at *
     generalize bY p.ig sig false=f1 at *
     generalize su sig=o1 at *
     go_enter Tryz.func162,Tryz.ntmps162
     go_upto_region 8 with (first
      |(go_at_call 231;refine hin.mono ?_;rintro e w1 ⟨rfl,hw⟩;subst w1)
      |(go_at_call 227;refine hr.mono ?_;rintro e w1 ⟨rfl,hb⟩))
     have c1:=I5.out w1 hb
     have l1:=HLO.out w1 hb
     have hA:Below w.heap.size w (w1.alloc (.cells #[.int .i64 1,.int .i64 p.parent,.int .i64 p.code,.int .u64 ((iV p.wt:Nat):Int),.int .u64 ((iV f1:Nat):Int)] 126)):=hb.alloc hb.size _
     obtain ⟨w5,hrun,h5⟩:=QO.out _ (bP (bP hA))
     have c2:=I5.out _ (bP hA)
     clear hA hr hin
     go_upto_region 11 with fail
     clear c1 l1
     go_region_with (first
      |(go_at_call 199;refine (hon _).mono ?_;rintro e w2 ⟨rfl,hw⟩;subst w2)
      |(go_at_call 198;refine (ZR _).mono ?_;rintro e w2 ⟨rfl,hw⟩;subst w2))
     all_goals
      clear ZR hon
      go_upto_region 13 with (go_at_call 198;refine (hwo _).mono ?_;rintro e w2 ⟨rfl,hw⟩;subst w2)
      go_region
      all_goals
       go_wp2_with fail
       go_ret
       exact ⟨rfl,h5⟩
 ·have hE:bN P n sig=2:=by unfold bN;rw [if_pos hs]
  rw [hE,if_neg (by omega),ax (by omega)]
  have hb:(decide (1≤sig) && decide (sig≤8))=false:=by
   rw [Bool.and_eq_false_iff,decide_eq_false_iff_not,decide_eq_false_iff_not];omega
  rw [hb] at hin
  go_enter Tryz.func162,Tryz.ntmps162
  go_wp2_with (go_at_call 231;refine hin.mono ?_;rintro e w1 ⟨rfl,hw⟩;subst w1)
  go_ret
  exact ⟨rfl,.same h (Below.refl _ _)⟩
end
section
variable {w w' V:World}{t g c:Nat}{P:Ps}{n m sig pid:Int}{p:Pr}
def QD (P:Ps) (n:Int):Int→Bool:=if aD P n=true then Vo P n else fI
theorem LY:aO P n=(sigs.find? (QD P n)).getD 0:=by
 unfold aO QD
 cases h:aD P n with
 |false=>simp [fI,sigs]
 |true=>simp
theorem ac8 (ok:pX P) (dj:JD P):(qF P n).2.2.2.1=iV (QD P n):=by
 unfold qF QD
 cases h:P n with
 |none=>
  have:aD P n=false:=by unfold aD;rw [lY h];rfl
  rw [this,if_neg (by simp),Jw]
 |some p=>
  cases hr:aD P n with
  |true=>simp only [if_true];unfold Vo;rw [h];rfl
  |false=>
   have hs:p.state=2:=by
    unfold aD at hr;rw [kG h] at hr
    have:=ok.st n p h
    simp only [decide_eq_false_iff_not] at hr
    omega
   simp only [Bool.false_eq_true,if_false]
   rw [dj.dead n p h hs]
theorem Z7 (ok:pX P):∀s,QD P n s=true→1≤s∧s≤8:=fun s z=>by
 unfold QD at z
 split at z
 ·unfold Vo at z
  cases h:P n with
  |none=>rw [h] at z;cases z
  |some p=>rw [h] at z;exact ok.wt n p h s z
 ·cases z
theorem JV {f:Int→Bool}{x:Int}(h:sigs.find? f=some x):(1≤x∧x≤8)∧f x=true:=by
 have h1:=List.mem_of_find?_eq_some h
 have h2:=List.find?_some h
 unfold sigs at h1
 simp only [List.mem_cons,List.not_mem_nil,or_false] at h1
 exact ⟨by omega,h2⟩
theorem QJ.take (h:QJ w t g P c) (hT:ni w) (n:Int) (hn:(Lit.int .i64 n).wf=true):Calls Tryz.prog 128 #[wp t,.int .i64 n] w fun e w'=>e=.returned (.int .i64 (aO P n))∧Fw w t g (dS P n) w':=by
 have hC:=h.toQM.xw n hn
 have hw:=ac8 (n:=n) h.ok h.dj
 have hL:=fun W hW=>Pm W (QD P n) (Z7 h.ok) hW
 rw [←LY] at hL
 have hlt:=hT.lt
 have hT1:∀V,Below w.heap.size w V→ni V:=fun V hV=>hT.keep (hV.block _ hlt)
 by_cases h0:aO P n=0
 ·have hQ:dS P n=P:=by unfold dS;rw [if_pos h0]
  rw [hQ,h0]
  rw [h0] at hL
  have hfin:=fun V (hV:Below w.heap.size w V)=>Fw.same h hV
  rw [hw] at hC
  generalize (qF P n).1=x1 at *
  generalize (qF P n).2.1=x2 at *
  generalize (qF P n).2.2.1=x3 at *
  generalize (qF P n).2.2.2.2=x5 at *
  generalize QD P n=f at *
  clear hw hQ h0 hT
  go_enter Tryz.func128,Tryz.ntmps128
  go_upto_region 2 with (go_at_call 196;refine hC.mono ?_;rintro e w1 ⟨rfl,hb⟩)
  have hA:=hb.alloc hb.size (.cells #[.int .i64 x1,.int .i64 x2,.int .i64 x3,.int .u64 ((iV f:Nat):Int),.int .u64 (x5:Int)] 126)
  have hL1:=hL _ (hT1 _ hA)
  clear hL hT1 hC
  go_wp2_with (go_at_call 197;refine hL1.mono ?_;rintro e w2 ⟨rfl,hw2⟩;subst w2)
  go_ret
  exact ⟨rfl,hfin _ hA⟩
 ·have nO:aD P n=true:=by
   cases z:aD P n with
   |true=>rfl
   |false=>exact absurd (by unfold aO;rw [if_pos z]) h0
  obtain ⟨p,hp,hst⟩:=dA.1 nO
  have hwq:QD P n=p.wt:=by unfold QD;rw [if_pos nO];unfold Vo;rw [hp];rfl
  have hs8:(1≤aO P n∧aO P n≤8):=by
   have e:=LY (P:=P) (n:=n)
   cases z:sigs.find? (QD P n) with
   |none=>rw [z] at e;exact absurd e h0
   |some x=>rw [z] at e;rw [e];exact (JV z).1
  have hd:=h.dj.Bh n p hp
  have hQ:dS P n=vP P n (fun p=>{ p with wt:=bY p.wt (aO P n) false }):=by unfold dS;rw [if_neg h0]
  have hok:=h.ok.take n
  rw [hQ] at hok ⊢
  have hput:=fun V hV=>@QJ.turn w V t g c P n p h hV hp (fun p=>{ p with wt:=bY p.wt (aO P n) false }) hok (fun s z=>by
   rcases jP z with ⟨_,z⟩|z
   ·cases z
   ·exact hd s z) (fun z=>by simp only at z;omega)
  have hig:=yt hst
  have hq:qv { p with wt:=bY p.wt (aO P n) false }=.agg #[.int .i64 1,.int .i64 p.parent,.int .i64 p.code,mv (bY p.wt (aO P n) false),mv p.ig]:=by
   unfold qv Ni;simp only [hst,if_true]
  simp only [hq] at hput
  have hF:qF P n=(1,p.parent,p.code,iV p.wt,iV p.ig):=by unfold qF;rw [hp];simp only [hst,hig]
  rw [hF] at hC
  rw [hwq] at hL
  have hon:=fun W=>Em W (aO P n) hs8
  have hwo:=fun W=>mi W p.wt (su (aO P n))
  rw [GD] at hwo
  have hco:=fun V (hV:Below w.heap.size w V)=>(h.toQM.below hV).c0
  have QO:Aside _:=hput
  have I5:Aside _:=hco
  have h0b:(aO P n == 0)=false:=by simpa using h0
  simp only at hC
  clear hw hQ hT hwq hd hok hput hq hig hF hco hs8
  generalize vP P n (fun p=>{ p with wt:=bY p.wt (aO P n) false })=P2 at *
  generalize bY p.wt (aO P n) false=f2 at *
  generalize su (aO P n)=o1 at *
  generalize aO P n=S at *
  go_enter Tryz.func128,Tryz.ntmps128
  go_upto_region 2 with (go_at_call 196;refine hC.mono ?_;rintro e w1 ⟨rfl,hb⟩)
  have hA0:=hb.alloc hb.size (.cells #[.int .i64 1,.int .i64 p.parent,.int .i64 p.code,.int .u64 ((iV p.wt:Nat):Int),.int .u64 ((iV p.ig:Nat):Int)] 126)
  have hL1:=hL _ (hT1 _ hA0)
  clear hL hT1 hC
  have hA:=hb.alloc hb.size (.cells #[.int .i64 1,.int .i64 p.parent,.int .i64 p.code,.int .u64 ((iV f2:Nat):Int),.int .u64 ((iV p.ig:Nat):Int)] 126)
  obtain ⟨w5,hrun,h5⟩:=QO.out _ (bP (bP hA))
  have c2:=I5.out _ (bP hA)
  clear hA hA0
  go_upto_region 5 with (go_at_call 197;refine hL1.mono ?_;rintro e w2 ⟨rfl,hw2⟩;subst w2)
  go_region_with (first
   |(go_at_call 199;refine (hon _).mono ?_;rintro e w2 ⟨rfl,hw⟩;subst w2)
   |(go_at_call 198;refine (hwo _).mono ?_;rintro e w2 ⟨rfl,hw⟩;subst w2))
  all_goals
   clear hwo hon hL1
   go_upto_region 6 with fail
   go_region
   all_goals
    go_wp2_with fail
    go_ret
    exact ⟨rfl,h5⟩
end
end Go.Proofs.YtippochapiolpaaGreatDoor

/- What is plain of processes, besides: for both sides. -/
import Derived.Test.YtcfhanoekniaaaaGreatDoorJAbs
import Derived.Test.YtcfhanoekniaaaaGreatDoorSKeys
import Derived.BigQuiet
import Derived.Outline
import Derived.Sort.LoopGhostIn
import Derived.Deep.Light
import Derived.Test.YtcfhanoekniaaaaGreatDoorShelfP
import Derived.Laws.Bits64b
import Derived.Laws.BitsAllLaws
import Derived.Lib.TrailingZeros
import Derived.Deep.RegionWith
set_option maxHeartbeats 4000000
set_option maxRecDepth 100000
namespace Go.Proofs.YtcfhanoekniaaaaGreatDoor
open Go.RowKit Go.Maps
theorem yz {n:Int}(h:-9223372036854775808≤n∧n≤9223372036854775807):(Lit.int .i64 n).wf=true:=by
 have a:IntKind.min .i64=-9223372036854775808:=rfl
 have b:IntKind.max .i64=9223372036854775807:=rfl
 simp [Lit.wf,a,b]
 omega
theorem lG {P:Program}{ops:Array Oper}{rest:List Oper}{o:Oper}{a:Act}{w:World}{Q:Exit→Act→World→Prop}(hgd:o.guard=none) (s x:Operand) (t k:TypeId)
 (ho:o.op=.call { callee:=.builtin .delete,args:=#[s,x],argTypes:=#[t,k] }) (v y v':Value) (w':World) (hs:a.eval s=v) (hx:a.eval x=y)
 (hr:∀ty,(Builtin.delete_ #[t,k] ty #[v,y]).run P w=.ok v' w') (h:wpList P ops Q rest (a.put o.dst v') w'):wpList P ops Q (o :: rest) a w:=by
 refine wpList_plain hgd fun K hK=>?_
 unfold Oper.wp execOp
 simp only [ho,resolve,invoke,builtin,Sem.run_bind,Sem.run_pure,Result.andThen_ok,List.map_toArray,List.map_cons,List.map_nil,hs,hx,hr]
 exact hK _ _ h
theorem UD (P:Ps) (n:Int) (f g:Pr→Pr):qV (qV P n f) n g=qV P n (fun p=>g (f p)):=by
 funext i
 unfold qV
 by_cases e:i=n
 ·simp only [e,if_true];cases P n<;>rfl
 ·simp only [e,if_false]
theorem MW {P:Ps}{n:Int}{p:Pr}(h:P n=some p) (f:Pr→Pr):qV P n f n=some (f p):=by
 unfold qV;rw [if_pos rfl,h];rfl
theorem JE {f:Int→Bool}{x:Int}(h1:1≤x∧x≤8) (hl:∀y,1≤y→y<x→f y=false) (hx:f x=true):sigs.find? f=some x:=by
 have a:∀y,1≤y→y<x→f y=false:=hl
 unfold sigs
 obtain h|h|h|h|h|h|h|h:x=1∨x=2∨x=3∨x=4∨x=5∨x=6∨x=7∨x=8:=by omega
 all_goals
  subst h
  simp only [List.find?_cons,hx]
  try simp only [a 1 (by omega) (by omega)]
  try simp only [a 2 (by omega) (by omega)]
  try simp only [a 3 (by omega) (by omega)]
  try simp only [a 4 (by omega) (by omega)]
  try simp only [a 5 (by omega) (by omega)]
  try simp only [a 6 (by omega) (by omega)]
  try simp only [a 7 (by omega) (by omega)]
theorem JC {f:Int→Bool}(hl:∀y,1≤y→y<9→f y=false):sigs.find? f=none:=by
 rw [List.find?_eq_none]
 intro x hx
 unfold sigs at hx
 simp only [List.mem_cons,List.not_mem_nil,or_false] at hx
 rw [hl x (by omega) (by omega)]
 simp
theorem Qz {ks ks':List Int}(h:ks.Pairwise (· < ·)) (h':ks'.Pairwise (· < ·)) (hm:∀x,x∈ks↔x∈ks'):ks=ks':=by
 have p:ks.Perm ks':=(List.perm_ext_iff_of_nodup (h.imp (fun z=>by omega)) (h'.imp (fun z=>by omega))).2 hm
 exact p.eq_of_pairwise (le:=(· < ·)) (fun a b _ _ h1 h2=>by omega) h h'
theorem Qu {ss:List Int}(h:ss.Nodup):(ss.mergeSort (fun x y=>decide (x≤y))).Pairwise (· < ·):=by
 have tr:∀a b c:Int,decide (a≤b)=true→decide (b≤c)=true→decide (a≤c)=true:=fun a b c h1 h2=>by simp only [decide_eq_true_eq] at *;omega
 have tl:∀a b:Int,(decide (a≤b) || decide (b≤a))=true:=fun a b=>by simp only [Bool.or_eq_true,decide_eq_true_eq];omega
 have h1:=List.pairwise_mergeSort tr tl ss
 have h2:(ss.mergeSort (fun x y=>decide (x≤y))).Nodup:=(List.mergeSort_perm ss _).nodup_iff.2 h
 exact h1.imp₂ (fun {a b} h1 h2=>by simp only [decide_eq_true_eq] at h1;omega) h2
theorem dm {B:Nat}{w w':World}(h:Below B w w'):Below B w w'.drew:=⟨h.os,h.tape,h.output,h.size,h.block⟩
def aP (P:Ps):Int:=(((List.range 24).map (fun i:Nat=>(i:Int)+1)).find? (fun n=>!(P n).isSome)).getD 0
theorem pJ {P:Ps}{k:Int}(h:ru P k) (Cr:k≤24):aP P=k:=by
 unfold aP
 have hk:=h.pos
 have:((List.range 24).map (fun i:Nat=>(i:Int)+1)).find? (fun n=>!(P n).isSome)=some k:=by
  rw [List.find?_eq_some_iff_getElem]
  refine ⟨by rw [h.no];rfl,(k-1).toNat,by simp;omega,by simp;omega,fun j hj=>?_⟩
  simp only [List.getElem_map,List.getElem_range]
  rw [h.all _ (by omega) (by omega)]
  rfl
 rw [this];rfl
def lV (P:Ps) (pid:Int) (c:Nat):Int:=if jW P pid c=0 then aP P else 0
def lU (P:Ps) (pid:Int) (c:Nat):Ps:=if jW P pid c=0 then fK P pid (aP P) else P
section
variable {P:Ps}{pid:Int}
theorem take_add {L:List Int}{i:Nat}(h:i<L.length):L.take (i+1)=L.take i ++ [L[i]]:=by
 rw [List.take_add_one,List.getElem?_eq_getElem h];rfl
theorem G9 {L:List Int}{f:Int→Bool}(ha:∀j (hj:j<L.length),f L[j]=false):L.find? f=none:=by
 rw [List.find?_eq_none]
 intro x hx
 obtain ⟨j,hj,rfl⟩:=List.getElem_of_mem hx
 rw [ha j hj];simp
end
end Go.Proofs.YtcfhanoekniaaaaGreatDoor
namespace Go.Proofs.YtcfhanoekniaaaaGreatDoor
open Go.RowKit Go.Maps Go.Sort Go.Shelf Go.Lib
def mk (f:Int→Bool):Nat→Nat
 |0=>0
 |k+1=>mk f k ||| (if f (k:Int)=true then 2 ^ k else 0)
theorem MX (f:Int→Bool):∀k i,(mk f k).testBit i=(decide (i<k) && f i)
 |0,i=>by simp [mk]
 |k+1,i=>by
  rw [mk,Nat.testBit_or,MX f k i]
  by_cases hf:f (k:Int)=true
  ·rw [if_pos hf,Nat.testBit_two_pow]
   by_cases e:k=i
   ·subst e;simp [hf]
   ·have:(decide (i<k+1))=decide (i<k):=by congr 1;apply propext;omega
    simp [e,this]
  ·rw [if_neg hf,Nat.zero_testBit,Bool.or_false]
   by_cases e:i=k
   ·subst e;simp [hf]
   ·have:(decide (i<k+1))=decide (i<k):=by congr 1;apply propext;omega
    rw [this]
theorem Tc (f:Int→Bool):∀k,mk f k<2 ^ k
 |0=>by simp [mk]
 |k+1=>by
  rw [mk]
  refine Nat.or_lt_two_pow ?_ ?_
  ·exact Nat.lt_of_lt_of_le (Tc f k) (Nat.pow_le_pow_right (by omega) (by omega))
  ·split
   ·exact Nat.pow_lt_pow_right (by omega) (by omega)
   ·exact Nat.pow_pos (by omega)
def iw (f:Int→Bool):Nat:=mk f 9
theorem qz (f:Int→Bool):iw f<512:=Tc f 9
theorem jc (f:Int→Bool) (i:Nat):(iw f).testBit i=(decide (i<9) && f i):=MX f 9 i
theorem Fa:iw eB=0:=rfl
def sK (s:Int):Int→Bool:=fun i=>decide (i=s)
def uz (f g:Int→Bool):Int→Bool:=fun i=>f i && !g i
theorem Rf {s:Nat}(h:s≤8):iw (sK s)=2 ^ s:=by
 apply Nat.eq_of_testBit_eq
 intro i
 rw [jc,Nat.testBit_two_pow]
 unfold sK
 by_cases e:s=i
 ·subst e;simp;omega
 ·have:¬((i:Int)=(s:Int)):=by omega
  simp [e,this]
theorem UL (f:Int→Bool) (s:Int):iw f ||| iw (sK s)=iw (gq f s true):=by
 apply Nat.eq_of_testBit_eq
 intro i
 rw [Nat.testBit_or,jc,jc,jc]
 unfold sK gq
 by_cases e:(i:Int)=s<;>by_cases h9:i<9<;>simp [e,h9]
theorem N9 (f g:Int→Bool):iw f &&& (18446744073709551615-iw g)=iw (uz f g):=by
 apply Nat.eq_of_testBit_eq
 intro i
 have h1:=qz g
 have h2:18446744073709551615-iw g=2 ^ 64-(iw g+1):=by omega
 rw [Nat.testBit_and,h2,Nat.testBit_two_pow_sub_succ (by omega),jc,jc,jc]
 unfold uz
 by_cases e:i<9
 ·have:i<64:=by omega
  simp [e,this]
 ·simp [e]
theorem N8 {f:Int→Bool}(h:iw f=0):sigs.find? f=none:=by
 refine JC (fun y h1 h2=>?_)
 have:=jc f y.toNat
 rw [h,Nat.zero_testBit,show ((y.toNat:Nat):Int)=y by omega] at this
 have h9:y.toNat<9:=by omega
 simpa [h9] using this.symm
theorem Ka {f:Int→Bool}(hf:∀s,f s=true→1≤s∧s≤8) (h:iw f≠0):sigs.find? f=some ((ctz 64 (iw f):Nat):Int):=by
 obtain ⟨m,hm,_⟩:=ctzFrom_spec 64 (iw f) (by omega) (by have:=qz f;omega)
 have e:ctzFrom 64 (iw f)=ctz 64 (iw f):=by
  unfold ctz;first|rfl|(rw [if_neg h])
 rw [e] at hm
 generalize ctz 64 (iw f)=k at *
 have hk:(iw f).testBit k=true:=by
  rw [hm,Nat.testBit_two_pow_mul]
  simp
 have hl:∀j,j<k→(iw f).testBit j=false:=fun j hj=>by
  rw [hm,Nat.testBit_two_pow_mul]
  simp;omega
 rw [jc] at hk
 simp only [Bool.and_eq_true,decide_eq_true_eq] at hk
 have:=hf k hk.2
 refine JE (x:=(k:Int)) (by omega) (fun y h1 h2=>?_) hk.2
 have h3:=hl y.toNat (by omega)
 rw [jc,show ((y.toNat:Nat):Int)=y by omega] at h3
 have h9:y.toNat<9:=by omega
 simpa [h9] using h3
def lZ (w:World):Prop:=TabAt 2 Lib.deBruijn64tab w
theorem lZ.lt {w:World}(h:lZ w):2<w.heap.size:=World.block_lt_of_cell? w _ (h 0 (by decide))
theorem lZ.keep {w w':World}(h:lZ w) (hb:w'.heap[2]? = w.heap[2]?):lZ w':=fun j hj=>by
 rw [World.cell?_of_block (w:=w) (a:=⟨2,j,none⟩) hb];exact h j hj
abbrev mv (f:Int→Bool):Value:=.int .u64 ((iw f:Nat):Int)
theorem Ia (w:World) (s:Int) (hs:1≤s∧s≤8):Calls Tryz.prog 164 #[.int .i64 s] w fun e w'=>e=.returned (mv (sK s))∧w'=w:=by
 have h:iw (sK s)=2 ^ s.toNat:=by
  have:=Rf (s:=s.toNat) (by omega)
  rw [show ((s.toNat:Nat):Int)=s by omega] at this
  exact this
 unfold mv
 rw [h]
 obtain h|h|h|h|h|h|h|h:s=1∨s=2∨s=3∨s=4∨s=5∨s=6∨s=7∨s=8:=by omega
 all_goals
  subst h
  go_enter Tryz.func164,Tryz.ntmps164
  go_wp2_with fail
  go_ret
  exact ⟨by first|rfl|simp,rfl⟩
theorem Qi (w:World) (f:Int→Bool) (s:Int) (hs:1≤s∧s≤8):Calls Tryz.prog 150 #[mv f,.int .i64 s] w fun e w'=>e=.returned (mv (gq f s true))∧w'=w:=by
 have hO:=Ia w s hs
 have h1:=qz f
 have h2:=qz (sK s)
 have hb:=bits_or_u64_nat (iw f) (iw (sK s)) (by omega) (by omega)
 rw [UL] at hb
 clear h1 h2
 unfold mv at *
 generalize iw (gq f s true)=r at *
 generalize iw (sK s)=o at *
 generalize iw f=m at *
 go_enter Tryz.func150,Tryz.ntmps150
 go_wp2_with (go_at_call 164;refine hO.mono ?_;rintro e w1 ⟨rfl,hw⟩;subst w1)
 go_ret
 exact ⟨by first|rfl|rw [hb],rfl⟩
theorem xe (w:World) (f g:Int→Bool):Calls Tryz.prog 151 #[mv f,mv g] w fun e w'=>e=.returned (mv (uz f g))∧w'=w:=by
 have h1:=qz f
 have h2:=qz g
 have hb:=u64_andNot_nat (iw f) (iw g) (by omega) (by omega)
 rw [N9] at hb
 clear h1 h2
 unfold mv at *
 generalize iw (uz f g)=r at *
 generalize iw g=o at *
 generalize iw f=m at *
 go_enter Tryz.func151,Tryz.ntmps151
 go_wp2_with fail
 go_ret
 exact ⟨by first|rfl|rw [hb],rfl⟩
theorem Kk (w:World) (f:Int→Bool) (hf:∀s,f s=true→1≤s∧s≤8) (hT:lZ w):Calls Tryz.prog 163 #[mv f] w fun e w'=>e=.returned (.int .i64 ((sigs.find? f).getD 0))∧w'=w:=by
 have hlt:=qz f
 by_cases h0:iw f=0
 ·rw [N8 h0]
  unfold mv
  rw [h0]
  go_enter Tryz.func163,Tryz.ntmps163
  go_wp2_with fail
  go_ret
  exact ⟨rfl,rfl⟩
 ·rw [Ka hf h0]
  have hC:=Any7.bits_TrailingZeros Tryz.tzL (iw f) (by omega) w (fun _=>hT)
  change Calls Tryz.prog 251 _ _ _ at hC
  unfold mv
  generalize ctz 64 (iw f)=r at *
  generalize iw f=m at *
  have hm:((m:Int) == 0)=false:=by simpa using h0
  have hm2:¬(m:Int)=0:=by omega
  clear hT
  go_enter Tryz.func163,Tryz.ntmps163
  go_wp2_with (go_at_call 251;refine hC.mono ?_;rintro e w1 ⟨rfl,hw⟩;subst w1)
  go_ret
  exact ⟨rfl,rfl⟩
end Go.Proofs.YtcfhanoekniaaaaGreatDoor
namespace Go.Proofs.YtcfhanoekniaaaaGreatDoor
open Go.RowKit Go.Maps Go.Sort
def LY (p:Pr):Int→Bool:=if p.state=1 then p.ig else eB
abbrev qv (p:Pr):Value:=.agg #[.int .i64 p.state,.int .i64 p.parent,.int .i64 p.code,mv p.wt,mv (LY p)]
abbrev qv0:Value:=.agg #[.int .i64 0,.int .i64 0,.int .i64 0,.int .u64 0,.int .u64 0]
theorem Uj (w:World):(zeroValue 219).run Tryz.prog w=.ok qv0 w:=by kernel_rfl
theorem P5 (a b c d e:Int) (w:World):(Instr.field 219 (.agg #[.int .i64 a,.int .i64 b,.int .i64 c,.int .u64 d,.int .u64 e]) 0).run Tryz.prog w=.ok (.int .i64 a) w∧(Instr.field 219 (.agg #[.int .i64 a,.int .i64 b,.int .i64 c,.int .u64 d,.int .u64 e]) 1).run Tryz.prog w=.ok (.int .i64 b) w∧(Instr.field 219 (.agg #[.int .i64 a,.int .i64 b,.int .i64 c,.int .u64 d,.int .u64 e]) 2).run Tryz.prog w=.ok (.int .i64 c) w∧(Instr.field 219 (.agg #[.int .i64 a,.int .i64 b,.int .i64 c,.int .u64 d,.int .u64 e]) 4).run Tryz.prog w=.ok (.int .u64 e) w:=by
 refine ⟨?_,?_,?_,?_⟩<;>kernel_rfl
structure JD (P:Ps):Prop where
 Af:∀n p,P n=some p→∀s,p.wt s=true→p.ig s=false
 dead:∀n p,P n=some p→p.state=2→p.wt=eB
structure QM (w:World) (t g:Nat) (P:Ps) (c:Nat):Prop where
 head:w.heap[t]? = some (.cells #[.map (some g)] 222)
 map:aF w g c (fun n=>(P n).map qv)
 key:∀n p,P n=some p→1≤n∧n≤24
structure QJ (w:World) (t g:Nat) (P:Ps) (c:Nat):Prop extends QM w t g P c where
 ok:nU P
 dj:JD P
section
variable {w w':World}{t g c:Nat}{P:Ps}{n m:Int}{p:Pr}
theorem QM.TE (h:QM w t g P c):t<w.heap.size:=by
 rcases Nat.lt_or_ge t w.heap.size with z|z
 ·exact z
 ·have:=h.head;rw [Array.getElem?_eq_none (by omega)] at this;cases this
theorem QM.gt (h:QM w t g P c):g≠t:=fun e=>by
 obtain ⟨es,cl,hm⟩:=h.map.isMap
 rw [e,h.head] at hm;cases hm
theorem QM.keep (h:QM w t g P c) (h1:w'.heap[t]? = w.heap[t]?) (h2:w'.heap[g]? = w.heap[g]?):QM w' t g P c:=⟨h1.trans h.head,h.map.keep h2,h.key⟩
theorem QM.below (h:QM w t g P c) (hb:Below w.heap.size w w'):QM w' t g P c:=h.keep (hb.block t h.TE) (hb.block g h.map.lt)
theorem QM.c0 (h:QM w t g P c):w.cell? ⟨t,0,none⟩=some (.map (some g)):=by rw [cell_of_row _ _ _ _ _ _ h.head];rfl
theorem QM.num (h:QM w t g P c):qR P c:=h.map.isN.congr (fun x=>by cases P x<;>rfl)
theorem QM.few (h:QM w t g P c):c≤24:=by
 have:=h.num.few (B:=24) (by omega) (fun x hx=>by
  obtain ⟨p,hp⟩:=Option.isSome_iff_exists.1 hx
  have:=h.key x p hp;omega)
 omega
theorem QM.look (h:QM w t g P c) (n:Int) (hn:(Lit.int .i64 n).wf=true):(Instr.lookup 220 (.map (some g)) (.int .i64 n) false).run Tryz.prog w=.ok (match P n with|some p=>qv p|none=>qv0) w:=by
 rw [h.map.look Tryz.underlying220 (Uj _) n hn]
 cases P n<;>rfl
theorem QM.vU (h:QM w t g P c) (hp:P n=some p) (hn:(Lit.int .i64 n).wf=true):(Instr.lookup 220 (.map (some g)) (.int .i64 n) false).run Tryz.prog w=.ok (.agg #[.int .i64 p.state,.int .i64 p.parent,.int .i64 p.code,.int .u64 ((iw p.wt:Nat):Int),.int .u64 ((iw (LY p):Nat):Int)]) w:=by
 rw [h.look n hn,hp]
def qF (P:Ps) (n:Int):Int×Int×Int×Nat×Nat:=match P n with|some p=>(p.state,p.parent,p.code,iw p.wt,iw (LY p)) | none=>(0,0,0,0,0)
theorem Xf:(qF P n).1=gJ P n:=by unfold qF;cases h:P n with|none=>rw [j4 h] | some p=>rw [iK h]
theorem Uu:(qF P n).2.1=uV P n:=by unfold qF;cases h:P n with|none=>rw [JZ h] | some p=>rw [mP h]
theorem QM.Xo (h:QM w t g P c) (n:Int) (hn:(Lit.int .i64 n).wf=true):(Instr.lookup 220 (.map (some g)) (.int .i64 n) false).run Tryz.prog w=.ok (.agg #[.int .i64 (qF P n).1,.int .i64 (qF P n).2.1,.int .i64 (qF P n).2.2.1,.int .u64 ((qF P n).2.2.2.1:Nat),.int .u64 ((qF P n).2.2.2.2:Nat)]) w:=by
 rw [h.look n hn]
 unfold qF
 cases P n<;>rfl
theorem QM.uB (h:QM w t g P c) (n:Int) (hn:(Lit.int .i64 n).wf=true):Calls Tryz.prog 162 #[wp t,.int .i64 n] w fun e w'=>e=.returned (.agg #[.int .i64 (qF P n).1,.int .i64 (qF P n).2.1,.int .i64 (qF P n).2.2.1,.int .u64 ((qF P n).2.2.2.1:Nat),.int .u64 ((qF P n).2.2.2.2:Nat)])∧Below w.heap.size w w':=by
 have hA:∀o,Below w.heap.size w (w.alloc o):=fun o=>(Below.refl _ w).alloc (Nat.le_refl _) o
 have hl:∀o,(Instr.lookup 220 (.map (some g)) (.int .i64 n) false).run Tryz.prog (w.alloc o)=_:=fun o=>(h.below (hA o)).Xo n hn
 have c0:∀o,(w.alloc o).cell? ⟨t,0,none⟩=some (.map (some g)):=fun o=>(h.below (hA o)).c0
 have hlt:=h.TE
 clear h
 generalize (qF P n).1=x1 at *
 generalize (qF P n).2.1=x2 at *
 generalize (qF P n).2.2.1=x3 at *
 generalize (qF P n).2.2.2.1=x4 at *
 generalize (qF P n).2.2.2.2=x5 at *
 go_enter Tryz.func162,Tryz.ntmps162
 go_wp2_with fail
 refine bodyPost_ret (v:=.agg #[.int .i64 x1,.int .i64 x2,.int .i64 x3,.int .u64 (x4:Int),.int .u64 (x5:Int)]) (by simp [results,Tryz.results162,go_sem]) rfl ⟨rfl,?_⟩
 repeat first|exact Below.refl _ _|refine Below.alloc ?_ (by first|omega|(simp<;>omega)) _|refine Below.setCell ?_ (by first|omega|(simp<;>omega)) _
theorem QM.state (h:QM w t g P c) (n:Int) (hn:(Lit.int .i64 n).wf=true):Calls Tryz.prog 112 #[wp t,.int .i64 n] w fun e w'=>e=.returned (.int .i64 (gJ P n))∧Below w.heap.size w w':=by
 have hC:=h.uB n hn
 rw [←Xf]
 have hf:=fun W=>(P5 (qF P n).1 (qF P n).2.1 (qF P n).2.2.1 ((qF P n).2.2.2.1:Nat) ((qF P n).2.2.2.2:Nat) W).1
 generalize (qF P n).1=x1 at *
 generalize (qF P n).2.1=x2 at *
 generalize (qF P n).2.2.1=x3 at *
 generalize (qF P n).2.2.2.1=x4 at *
 generalize (qF P n).2.2.2.2=x5 at *
 go_enter Tryz.func112,Tryz.ntmps112
 go_wp2_with (go_at_call 162;refine hC.mono ?_;rintro e w1 ⟨rfl,hb⟩)
 go_ret
 exact ⟨rfl,hb⟩
theorem QM.parent (h:QM w t g P c) (n:Int) (hn:(Lit.int .i64 n).wf=true):Calls Tryz.prog 248 #[wp t,.int .i64 n] w fun e w'=>e=.returned (.int .i64 (uV P n))∧Below w.heap.size w w':=by
 have hC:=h.uB n hn
 rw [←Uu]
 have hf:=fun W=>(P5 (qF P n).1 (qF P n).2.1 (qF P n).2.2.1 ((qF P n).2.2.2.1:Nat) ((qF P n).2.2.2.2:Nat) W).2.1
 generalize (qF P n).1=x1 at *
 generalize (qF P n).2.1=x2 at *
 generalize (qF P n).2.2.1=x3 at *
 generalize (qF P n).2.2.2.1=x4 at *
 generalize (qF P n).2.2.2.2=x5 at *
 go_enter Tryz.func248,Tryz.ntmps248
 go_wp2_with (go_at_call 162;refine hC.mono ?_;rintro e w1 ⟨rfl,hb⟩)
 go_ret
 exact ⟨rfl,hb⟩
theorem QM.runs (h:QM w t g P c) (n:Int) (hn:(Lit.int .i64 n).wf=true):Calls Tryz.prog 137 #[wp t,.int .i64 n] w fun e w'=>e=.returned (aH (if ay P n=true then 0 else 7))∧Below w.heap.size w w':=by
 have hC:=h.state n hn
 cases nT:ay P n with
 |true=>
  have hs:gJ P n=1:=by unfold ay at nT;simpa using nT
  rw [hs] at hC
  rw [if_pos rfl,aC]
  go_enter Tryz.func137,Tryz.ntmps137
  go_wp2_with (go_at_call 112;refine hC.mono ?_;rintro e w1 ⟨rfl,hb⟩)
  go_ret
  exact ⟨rfl,hb⟩
 |false=>
  have hs:gJ P n≠1:=by unfold ay at nT;simpa using nT
  rw [if_neg (by simp),az (by omega)]
  have hs':(gJ P n == 1)=false:=by simpa using hs
  generalize gJ P n=s at *
  go_enter Tryz.func137,Tryz.ntmps137
  go_wp2_with (go_at_call 112;refine hC.mono ?_;rintro e w1 ⟨rfl,hb⟩)
  go_ret
  exact ⟨rfl,hb⟩
theorem QJ.below (h:QJ w t g P c) (hb:Below w.heap.size w w'):QJ w' t g P c:=⟨h.toQM.below hb,h.ok,h.dj⟩
end
theorem Q4 {P:Ps}{n:Int}{p:Pr}(hp:P n=some p) (f:Pr→Pr):qV P n f=nQ P n (f p):=by
 funext i
 unfold qV nQ
 by_cases e:i=n
 ·subst e;rw [if_pos rfl,if_pos rfl,hp];rfl
 ·rw [if_neg e,if_neg e]
theorem tT {P:Ps}{n i:Int}{p q:Pr}(h:nQ P n p i=some q):(i=n∧q=p)∨(i≠n∧P i=some q):=by
 unfold nQ at h
 split at h
 ·rename_i e;exact .inl ⟨e,(Option.some.inj h).symm⟩
 ·rename_i e;exact .inr ⟨e,h⟩
abbrev Pq (g:Nat) (w w':World):Prop:=Wt (fun i=>i=g) w w'
def GH (w:World) (t g:Nat) (P':Ps) (w':World):Prop:=∃c',QJ w' t g P' c'∧Pq g w w'
section
variable {w w' V:World}{t g c:Nat}{P:Ps}{n m sig pid:Int}{p:Pr}
theorem Pq.ofB (hb:Below w.heap.size w w'):Pq g w w':=.below _ hb
theorem GH.same (h:QJ w t g P c) (hb:Below w.heap.size w w'):GH w t g P w':=⟨c,h.below hb,.ofB hb⟩
theorem QM.put (h:QM w t g P c) (hV:Below w.heap.size w V) (n:Int) (hn:1≤n∧n≤24) (p:Pr):∃w5,(Instr.mapUpdate 220 (.map (some g)) (.int .i64 n) (qv p)).run Tryz.prog V=.ok () w5∧QM w5 t g (nQ P n p) (if (P n).isSome then c else c+1)∧Pq g w w5:=by
 have hc:=h.few
 have hv:=h.below hV
 obtain ⟨w5,hrun,m5,g5⟩:=hv.map.put Tryz.underlying220 (by unfold maxLen;omega) n (yz (by omega)) (qv p)
 have hM:(fun i=>if i=n then some (qv p) else (P i).map qv)=fun i=>(nQ P n p i).map qv:=by
  funext i;unfold nQ;split<;>rfl
 rw [hM,Option.isSome_map] at m5
 refine ⟨w5,hrun,⟨(g5.block t hv.TE (fun z=>h.gt (Option.some.inj z).symm)).trans hv.head,m5,fun i q e=>?_⟩,?_⟩
 ·rcases tT e with ⟨rfl,_⟩|⟨_,e⟩
  ·exact hn
  ·exact h.key i q e
 ·exact (Wt.below _ hV).trans (.grown g5 rfl)
theorem JD.first:JD eQ:=by
 have hh:∀n p,eQ n=some p→p=⟨0,1,0,eB,eB⟩:=fun n p e=>by
  unfold eQ at e
  split at e
  ·exact (Option.some.inj e).symm
  ·cases e
 refine ⟨fun n p e s z=>?_,fun n p e z=>?_⟩
 ·have:=hh n p e;subst this;cases z
 ·have:=hh n p e;subst this;rfl
theorem JD.set (h:JD P) (h1:∀s,p.wt s=true→p.ig s=false) (h2:p.state=2→p.wt=eB):JD (nQ P n p):=by
 refine ⟨fun i q e s z=>?_,fun i q e z=>?_⟩
 ·rcases tT e with ⟨_,rfl⟩|⟨_,e⟩
  ·exact h1 s z
  ·exact h.Af i q e s z
 ·rcases tT e with ⟨_,rfl⟩|⟨_,e⟩
  ·exact h2 z
  ·exact h.dead i q e z
theorem QJ.turn (h:QJ w t g P c) (hV:Below w.heap.size w V) (hp:P n=some p) (f:Pr→Pr) (ok:nU (qV P n f)) (h1:∀s,(f p).wt s=true→(f p).ig s=false) (h2:(f p).state=2→(f p).wt=eB):∃w5,(Instr.mapUpdate 220 (.map (some g)) (.int .i64 n) (qv (f p))).run Tryz.prog V=.ok () w5∧GH w t g (qV P n f) w5:=by
 obtain ⟨w5,hrun,m5,s5⟩:=h.toQM.put hV n (h.key n p hp) (f p)
 rw [Q4 hp] at *
 exact ⟨w5,hrun,_,⟨m5,ok,h.dj.set h1 h2⟩,s5⟩
theorem Er (w:World) (x:Int):Calls Tryz.prog 149 #[.int .i64 x] w fun e w'=>e=.returned (.bool (decide (1≤x) && decide (x≤8)))∧w'=w:=by
 by_cases h1:1≤x<;>by_cases h2:x≤8
 all_goals
  simp only [h1,h2,decide_true,decide_false,Bool.and_true,Bool.and_false]
  go_enter Tryz.func149,Tryz.ntmps149
  go_wp2_with fail
  go_ret
  exact ⟨rfl,rfl⟩
theorem Bn (h:p.state=1):LY p=p.ig:=if_pos h
theorem Kn (hd:∀s,p.wt s=true→p.ig s=false) (sig:Int):uz (gq p.wt sig true) p.ig=if p.ig sig=true then p.wt else gq p.wt sig true:=by
 funext i
 unfold uz gq
 by_cases e:i=sig
 ·subst e
  cases hi:p.ig i with
  |true=>
   have:p.wt i=false:=by cases hw:p.wt i with|false=>rfl|true=>have:=hd i hw;rw [hi] at this;cases this
   simp [this]
  |false=>simp
 ·have hz:(p.wt i && !p.ig i)=p.wt i:=by
   cases hw:p.wt i with
   |false=>rfl
   |true=>rw [hd i hw];rfl
  rw [if_neg e,hz]
  split<;>simp [e]
theorem QJ.kill (h:QJ w t g P c) (n sig:Int) (hn:(Lit.int .i64 n).wf=true):Calls Tryz.prog 61 #[wp t,.int .i64 n,.int .i64 sig] w fun e w'=>e=.returned (aH (fF P n sig))∧GH w t g (if fF P n sig=0 then jV P n sig else P) w':=by
 have hin:=Er w sig
 have hr:=h.toQM.runs n hn
 by_cases hs:1≤sig∧sig≤8
 ·rw [decide_eq_true hs.1,decide_eq_true hs.2] at hin
  simp only [Bool.and_self] at hin
  cases nT:ay P n with
  |false=>
   rw [nT,if_neg (by simp),az (by omega)] at hr
   have hE:fF P n sig=7:=by unfold fF;rw [if_neg (by omega),nT];rfl
   rw [hE,if_neg (by omega),az (by omega)]
   go_enter Tryz.func61,Tryz.ntmps61
   go_wp2_with (first
    |(go_at_call 149;refine hin.mono ?_;rintro e w1 ⟨rfl,hw⟩;subst w1)
    |(go_at_call 137;refine hr.mono ?_;rintro e w1 ⟨rfl,hb⟩))
   go_ret
   exact ⟨rfl,.same h hb⟩
  |true=>
   rw [nT,if_pos rfl,aC] at hr
   have hE:fF P n sig=0:=by unfold fF;rw [if_neg (by omega),nT];rfl
   rw [hE,if_pos rfl,aC]
   obtain ⟨p,hp,hst⟩:=bY.1 nT
   have hd:=h.dj.Af n p hp
   have hig:=Bn hst
   have hkl:=Kn hd sig
   have GG:=fun W=>Qi W p.wt sig hs
   have hwo:=fun W=>xe W (gq p.wt sig true) p.ig
   rw [hkl] at hwo
   have hput:=fun V hV=>@QJ.turn w V t g c P n p h hV hp (fun p=>if p.ig sig=true then p else { p with wt:=gq p.wt sig true }) (h.ok.kill hs) (fun s z=>by
    by_cases hi:p.ig sig=true
    ·simp only [if_pos hi] at z ⊢;exact hd s z
    ·simp only [if_neg hi] at z ⊢
     rcases pE z with ⟨rfl,_⟩|z
     ·simpa using hi
     ·exact hd s z) (fun z=>by
    by_cases hi:p.ig sig=true
    ·simp only [if_pos hi] at z;omega
    ·simp only [if_neg hi] at z;omega)
   have hq:qv (if p.ig sig=true then p else { p with wt:=gq p.wt sig true })=.agg #[.int .i64 1,.int .i64 p.parent,.int .i64 p.code,mv (if p.ig sig=true then p.wt else gq p.wt sig true),mv p.ig]:=by
    by_cases hi:p.ig sig=true
    ·rw [if_pos hi,if_pos hi];unfold qv;rw [hig,hst]
    ·rw [if_neg hi,if_neg hi];unfold qv LY;simp only [hst,if_true]
   simp only [hq] at hput
   have TR:Aside _:=hput
   have hlo:=fun V (hV:Below w.heap.size w V)=>(h.toQM.below hV).vU hp hn
   rw [hst,hig] at hlo
   have hco:=fun V (hV:Below w.heap.size w V)=>(h.toQM.below hV).c0
   have Y0:Aside _:=hlo
   have L9:Aside _:=hco
   clear hput hq hkl hig hd hlo hco
   generalize (if p.ig sig=true then p.wt else gq p.wt sig true)=f2 at *
   generalize hf1:gq p.wt sig true=f1 at *
   clear hf1
   go_enter Tryz.func61,Tryz.ntmps61
   go_upto_region 6 with (first
    |(go_at_call 149;refine hin.mono ?_;rintro e w1 ⟨rfl,hw⟩;subst w1)
    |(go_at_call 137;refine hr.mono ?_;rintro e w1 ⟨rfl,hb⟩))
   have c1:=L9.out w1 hb
   have l1:=Y0.out w1 hb
   go_upto_region 7 with fail
   clear c1 l1
   go_region_with (first
    |(go_at_call 150;refine (GG _).mono ?_;rintro e w2 ⟨rfl,hw⟩;subst w2)
    |(go_at_call 151;refine (hwo _).mono ?_;rintro e w2 ⟨rfl,hw⟩;subst w2))
   all_goals
    have hA:Below w.heap.size w (w1.alloc (.cells #[.int .i64 1,.int .i64 p.parent,.int .i64 p.code,.int .u64 ((iw f2:Nat):Int),.int .u64 ((iw p.ig:Nat):Int)] 219)):=hb.alloc hb.size _
    obtain ⟨w5,hrun,h5⟩:=TR.out _ (dm (dm hA))
    have c2:=L9.out _ (dm hA)
    clear hA GG hwo hr hin
    go_upto_region 8 with fail
    go_region
    all_goals
     go_wp2_with fail
     go_ret
     exact ⟨rfl,h5⟩
 ·have hE:fF P n sig=2:=by unfold fF;rw [if_pos hs]
  rw [hE,if_neg (by omega),az (by omega)]
  have hb:(decide (1≤sig) && decide (sig≤8))=false:=by
   rw [Bool.and_eq_false_iff,decide_eq_false_iff_not,decide_eq_false_iff_not];omega
  rw [hb] at hin
  go_enter Tryz.func61,Tryz.ntmps61
  go_wp2_with (go_at_call 149;refine hin.mono ?_;rintro e w1 ⟨rfl,hw⟩;subst w1)
  go_ret
  exact ⟨rfl,.same h (Below.refl _ _)⟩
end
section
variable {w w' V:World}{t g c:Nat}{P:Ps}{n m sig pid:Int}{p:Pr}
theorem NZ (w:World):Calls Tryz.prog 50 #[] w fun e w'=>∃t g,e=.returned (wp t)∧QJ w' t g eQ 1∧Below w.heap.size w w'∧w.heap.size≤t∧w.heap.size≤g:=by
 have hmm:=@run_makeMap Tryz.prog
 have p0:aF (w.alloc (.map #[] 0)) w.heap.size 0 (fun _=>none):=aF.made w
 have hsz:(w.alloc (.map #[] 0)).heap.size=w.heap.size+1:=by show (w.heap.push _).size=_;rw [Array.size_push]
 have bA:Below w.heap.size w (w.alloc (.map #[] 0)):=(Below.refl _ w).alloc (Nat.le_refl _) _
 obtain ⟨w1,hrun,q0,g1⟩:=p0.put Tryz.underlying220 (by unfold maxLen;omega) 1 (by decide) (.agg #[.int .i64 1,.int .i64 0,.int .i64 0,.int .u64 0,.int .u64 0])
 have b1:Below w.heap.size w w1:=⟨g1.os.trans bA.os,g1.tape.trans bA.tape,g1.output.trans bA.output,Nat.le_trans bA.size g1.size,fun i hi=>(g1.block i (by rw [hsz];omega) (fun e=>by have:=Option.some.inj e;omega)).trans (bA.block i hi)⟩
 have hz1:w.heap.size+1≤w1.heap.size:=by have:=g1.size;rw [hsz] at this;exact this
 have hfin:QJ (w1.alloc (.cells #[.map (some w.heap.size)] 222)) w1.heap.size w.heap.size eQ 1:=by
  refine ⟨⟨?_,?_,nU.first.key⟩,.first,.first⟩
  ·show (w1.heap.push _)[w1.heap.size]? = _
   rw [Array.getElem?_push,if_pos rfl]
  ·have e:(fun i=>if i=(1:Int) then some (Value.agg #[.int .i64 1,.int .i64 0,.int .i64 0,.int .u64 0,.int .u64 0]) else (fun _=>none) i)=fun n=>(eQ n).map qv:=by
    funext i;unfold eQ
    by_cases e:i=1
    ·simp only [e,if_true,Option.map_some];rfl
    ·simp [e]
   rw [←e]
   exact q0.keep (Below.heap_alloc _ _ _ q0.lt)
 have b2:Below w.heap.size w (w1.alloc (.cells #[.map (some w.heap.size)] 222)):=b1.alloc b1.size _
 clear q0 p0 g1 bA b1 hsz
 go_enter Tryz.func50,Tryz.ntmps50
 go_wp2_with fail
 go_ret
 exact ⟨w1.heap.size,w.heap.size,rfl,hfin,b2,by omega,Nat.le_refl _⟩
theorem Oi (f:Int→Bool) (sig:Int):uz f (sK sig)=gq f sig false:=by
 funext i
 unfold uz gq sK
 by_cases e:i=sig<;>simp [e]
end
section
variable {w w' V:World}{t g c:Nat}{P:Ps}{n m sig pid:Int}{p:Pr}
def LX (P:Ps) (n:Int):Int→Bool:=if ay P n=true then Pw P n else eB
theorem Ho:aY P n=(sigs.find? (LX P n)).getD 0:=by
 unfold aY LX
 cases h:ay P n with
 |false=>simp [eB,sigs]
 |true=>simp
theorem Xe (ok:nU P) (dj:JD P):(qF P n).2.2.2.1=iw (LX P n):=by
 unfold qF LX
 cases h:P n with
 |none=>
  have:ay P n=false:=by unfold ay;rw [j4 h];rfl
  rw [this,if_neg (by simp),Fa]
 |some p=>
  cases hr:ay P n with
  |true=>simp only [if_true];unfold Pw;rw [h];rfl
  |false=>
   have hs:p.state=2:=by
    unfold ay at hr;rw [iK h] at hr
    have:=ok.st n p h
    simp only [decide_eq_false_iff_not] at hr
    omega
   simp only [Bool.false_eq_true,if_false]
   rw [dj.dead n p h hs]
theorem Uk (ok:nU P):∀s,LX P n s=true→1≤s∧s≤8:=fun s z=>by
 unfold LX at z
 split at z
 ·unfold Pw at z
  cases h:P n with
  |none=>rw [h] at z;cases z
  |some p=>rw [h] at z;exact ok.wt n p h s z
 ·cases z
theorem FB {f:Int→Bool}{x:Int}(h:sigs.find? f=some x):(1≤x∧x≤8)∧f x=true:=by
 have h1:=List.mem_of_find?_eq_some h
 have h2:=List.find?_some h
 unfold sigs at h1
 simp only [List.mem_cons,List.not_mem_nil,or_false] at h1
 exact ⟨by omega,h2⟩
theorem QJ.take (h:QJ w t g P c) (hT:lZ w) (n:Int) (hn:(Lit.int .i64 n).wf=true):Calls Tryz.prog 75 #[wp t,.int .i64 n] w fun e w'=>e=.returned (.int .i64 (aY P n))∧GH w t g (fJ P n) w':=by
 have hC:=h.toQM.uB n hn
 have hw:=Xe (n:=n) h.ok h.dj
 have hL:=fun W hW=>Kk W (LX P n) (Uk h.ok) hW
 rw [←Ho] at hL
 have hlt:=hT.lt
 have hT1:∀V,Below w.heap.size w V→lZ V:=fun V hV=>hT.keep (hV.block _ hlt)
 by_cases h0:aY P n=0
 ·have hQ:fJ P n=P:=by unfold fJ;rw [if_pos h0]
  rw [hQ,h0]
  rw [h0] at hL
  have hfin:=fun V (hV:Below w.heap.size w V)=>GH.same h hV
  rw [hw] at hC
  generalize (qF P n).1=x1 at *
  generalize (qF P n).2.1=x2 at *
  generalize (qF P n).2.2.1=x3 at *
  generalize (qF P n).2.2.2.2=x5 at *
  generalize LX P n=f at *
  clear hw hQ h0 hT
  go_enter Tryz.func75,Tryz.ntmps75
  go_upto_region 2 with (go_at_call 162;refine hC.mono ?_;rintro e w1 ⟨rfl,hb⟩)
  have hA:=hb.alloc hb.size (.cells #[.int .i64 x1,.int .i64 x2,.int .i64 x3,.int .u64 ((iw f:Nat):Int),.int .u64 (x5:Int)] 219)
  have hL1:=hL _ (hT1 _ hA)
  clear hL hT1 hC
  go_wp2_with (go_at_call 163;refine hL1.mono ?_;rintro e w2 ⟨rfl,hw2⟩;subst w2)
  go_ret
  exact ⟨rfl,hfin _ hA⟩
 ·have nT:ay P n=true:=by
   cases z:ay P n with
   |true=>rfl
   |false=>exact absurd (by unfold aY;rw [if_pos z]) h0
  obtain ⟨p,hp,hst⟩:=bY.1 nT
  have hwq:LX P n=p.wt:=by unfold LX;rw [if_pos nT];unfold Pw;rw [hp];rfl
  have XL:(1≤aY P n∧aY P n≤8):=by
   have e:=Ho (P:=P) (n:=n)
   cases z:sigs.find? (LX P n) with
   |none=>rw [z] at e;exact absurd e h0
   |some x=>rw [z] at e;rw [e];exact (FB z).1
  have hd:=h.dj.Af n p hp
  have hQ:fJ P n=qV P n (fun p=>{ p with wt:=gq p.wt (aY P n) false }):=by unfold fJ;rw [if_neg h0]
  have hok:=h.ok.take n
  rw [hQ] at hok ⊢
  have hput:=fun V hV=>@QJ.turn w V t g c P n p h hV hp (fun p=>{ p with wt:=gq p.wt (aY P n) false }) hok (fun s z=>by
   rcases pE z with ⟨_,z⟩|z
   ·cases z
   ·exact hd s z) (fun z=>by simp only at z;omega)
  have hig:=Bn hst
  have hq:qv { p with wt:=gq p.wt (aY P n) false }=.agg #[.int .i64 1,.int .i64 p.parent,.int .i64 p.code,mv (gq p.wt (aY P n) false),mv p.ig]:=by
   unfold qv LY;simp only [hst,if_true]
  simp only [hq] at hput
  have hF:qF P n=(1,p.parent,p.code,iw p.wt,iw p.ig):=by unfold qF;rw [hp];simp only [hst,hig]
  rw [hF] at hC
  rw [hwq] at hL
  have hon:=fun W=>Ia W (aY P n) XL
  have hwo:=fun W=>xe W p.wt (sK (aY P n))
  rw [Oi] at hwo
  have hco:=fun V (hV:Below w.heap.size w V)=>(h.toQM.below hV).c0
  have TR:Aside _:=hput
  have L9:Aside _:=hco
  have h0b:(aY P n == 0)=false:=by simpa using h0
  simp only at hC
  clear hw hQ hT hwq hd hok hput hq hig hF hco XL
  generalize qV P n (fun p=>{ p with wt:=gq p.wt (aY P n) false })=P2 at *
  generalize gq p.wt (aY P n) false=f2 at *
  generalize sK (aY P n)=o1 at *
  generalize aY P n=S at *
  go_enter Tryz.func75,Tryz.ntmps75
  go_upto_region 2 with (go_at_call 162;refine hC.mono ?_;rintro e w1 ⟨rfl,hb⟩)
  have X5:=hb.alloc hb.size (.cells #[.int .i64 1,.int .i64 p.parent,.int .i64 p.code,.int .u64 ((iw p.wt:Nat):Int),.int .u64 ((iw p.ig:Nat):Int)] 219)
  have hL1:=hL _ (hT1 _ X5)
  clear hL hT1 hC
  have hA:=hb.alloc hb.size (.cells #[.int .i64 1,.int .i64 p.parent,.int .i64 p.code,.int .u64 ((iw f2:Nat):Int),.int .u64 ((iw p.ig:Nat):Int)] 219)
  obtain ⟨w5,hrun,h5⟩:=TR.out _ (dm (dm hA))
  have c2:=L9.out _ (dm hA)
  clear hA X5
  go_upto_region 5 with (go_at_call 163;refine hL1.mono ?_;rintro e w2 ⟨rfl,hw2⟩;subst w2)
  go_region_with (first
   |(go_at_call 164;refine (hon _).mono ?_;rintro e w2 ⟨rfl,hw⟩;subst w2)
   |(go_at_call 151;refine (hwo _).mono ?_;rintro e w2 ⟨rfl,hw⟩;subst w2))
  all_goals
   clear hwo hon hL1
   go_upto_region 6 with fail
   go_region
   all_goals
    go_wp2_with fail
    go_ret
    exact ⟨rfl,h5⟩
end
end Go.Proofs.YtcfhanoekniaaaaGreatDoor

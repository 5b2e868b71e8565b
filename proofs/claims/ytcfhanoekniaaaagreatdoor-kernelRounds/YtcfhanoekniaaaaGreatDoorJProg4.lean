/- What is plain of processes, besides: for both sides. -/
import Derived.Test.YtcfhanoekniaaaaGreatDoorJAbs
import Derived.Test.YtcfhanoekniaaaaGreatDoorSKeys
import Derived.BigQuiet
import Derived.Outline
import Derived.Sort.LoopGhostIn
import Derived.Deep.Light
import Derived.Test.YtcfhanoekniaaaaGreatDoorShelfP
import Derived.Laws.Bits64b
import Derived.Laws.BitsAllLaws
import Derived.Lib.TrailingZeros
import Derived.Deep.RegionWith
set_option maxHeartbeats 4000000
set_option maxRecDepth 100000
namespace Go.Proofs.YtcfhanoekniaaaaGreatDoor
open Go.RowKit Go.Maps
theorem yH {n:Int}(h:-9223372036854775808≤n∧n≤9223372036854775807):(Lit.int .i64 n).wf=true:=by
 have a:IntKind.min .i64=-9223372036854775808:=rfl
 have b:IntKind.max .i64=9223372036854775807:=rfl
 simp [Lit.wf,a,b]
 omega
theorem lM {P:Program}{ops:Array Oper}{rest:List Oper}{o:Oper}{a:Act}{w:World}{Q:Exit→Act→World→Prop}(hgd:o.guard=none) (s x:Operand) (t k:TypeId)
 (ho:o.op=.call { callee:=.builtin .delete,args:=#[s,x],argTypes:=#[t,k] }) (v y v':Value) (w':World) (hs:a.eval s=v) (hx:a.eval x=y)
 (hr:∀ty,(Builtin.delete_ #[t,k] ty #[v,y]).run P w=.ok v' w') (h:wpList P ops Q rest (a.put o.dst v') w'):wpList P ops Q (o :: rest) a w:=by
 refine wpList_plain hgd fun K hK=>?_
 unfold Oper.wp execOp
 simp only [ho,resolve,invoke,builtin,Sem.run_bind,Sem.run_pure,Result.andThen_ok,List.map_toArray,List.map_cons,List.map_nil,hs,hx,hr]
 exact hK _ _ h
theorem Vk (P:Ps) (n:Int) (f g:Pr→Pr):q8 (q8 P n f) n g=q8 P n (fun p=>g (f p)):=by
 funext i
 unfold q8
 by_cases e:i=n
 ·simp only [e,if_true];cases P n<;>rfl
 ·simp only [e,if_false]
theorem Nq {P:Ps}{n:Int}{p:Pr}(h:P n=some p) (f:Pr→Pr):q8 P n f n=some (f p):=by
 unfold q8;rw [if_pos rfl,h];rfl
theorem J4 {f:Int→Bool}{x:Int}(h1:1≤x∧x≤8) (hl:∀y,1≤y→y<x→f y=false) (hx:f x=true):sigs.find? f=some x:=by
 have a:∀y,1≤y→y<x→f y=false:=hl
 unfold sigs
 obtain h|h|h|h|h|h|h|h:x=1∨x=2∨x=3∨x=4∨x=5∨x=6∨x=7∨x=8:=by omega
 all_goals
  subst h
  simp only [List.find?_cons,hx]
  try simp only [a 1 (by omega) (by omega)]
  try simp only [a 2 (by omega) (by omega)]
  try simp only [a 3 (by omega) (by omega)]
  try simp only [a 4 (by omega) (by omega)]
  try simp only [a 5 (by omega) (by omega)]
  try simp only [a 6 (by omega) (by omega)]
  try simp only [a 7 (by omega) (by omega)]
theorem J3 {f:Int→Bool}(hl:∀y,1≤y→y<9→f y=false):sigs.find? f=none:=by
 rw [List.find?_eq_none]
 intro x hx
 unfold sigs at hx
 simp only [List.mem_cons,List.not_mem_nil,or_false] at hx
 rw [hl x (by omega) (by omega)]
 simp
theorem Q7 {ks ks':List Int}(h:ks.Pairwise (· < ·)) (h':ks'.Pairwise (· < ·)) (hm:∀x,x∈ks↔x∈ks'):ks=ks':=by
 have p:ks.Perm ks':=(List.perm_ext_iff_of_nodup (h.imp (fun z=>by omega)) (h'.imp (fun z=>by omega))).2 hm
 exact p.eq_of_pairwise (le:=(· < ·)) (fun a b _ _ h1 h2=>by omega) h h'
theorem Q0 {ss:List Int}(h:ss.Nodup):(ss.mergeSort (fun x y=>decide (x≤y))).Pairwise (· < ·):=by
 have tr:∀a b c:Int,decide (a≤b)=true→decide (b≤c)=true→decide (a≤c)=true:=fun a b c h1 h2=>by simp only [decide_eq_true_eq] at *;omega
 have tl:∀a b:Int,(decide (a≤b) || decide (b≤a))=true:=fun a b=>by simp only [Bool.or_eq_true,decide_eq_true_eq];omega
 have h1:=List.pairwise_mergeSort tr tl ss
 have h2:(ss.mergeSort (fun x y=>decide (x≤y))).Nodup:=(List.mergeSort_perm ss _).nodup_iff.2 h
 exact h1.imp₂ (fun {a b} h1 h2=>by simp only [decide_eq_true_eq] at h1;omega) h2
theorem dA {B:Nat}{w w':World}(h:Below B w w'):Below B w w'.drew:=⟨h.os,h.tape,h.output,h.size,h.block⟩
def ay (P:Ps):Int:=(((List.range 24).map (fun i:Nat=>(i:Int)+1)).find? (fun n=>!(P n).isSome)).getD 0
theorem jd {P:Ps}{k:Int}(h:mo P k) (uH:k≤24):ay P=k:=by
 unfold ay
 have hk:=h.pos
 have:((List.range 24).map (fun i:Nat=>(i:Int)+1)).find? (fun n=>!(P n).isSome)=some k:=by
  rw [List.find?_eq_some_iff_getElem]
  refine ⟨by rw [h.no];rfl,(k-1).toNat,by simp;omega,by simp;omega,fun j hj=>?_⟩
  simp only [List.getElem_map,List.getElem_range]
  rw [h.all _ (by omega) (by omega)]
  rfl
 rw [this];rfl
def l9 (P:Ps) (pid:Int) (c:Nat):Int:=if kv P pid c=0 then ay P else 0
def l8 (P:Ps) (pid:Int) (c:Nat):Ps:=if kv P pid c=0 then dw P pid (ay P) else P
section
variable {P:Ps}{pid:Int}
theorem take_add {L:List Int}{i:Nat}(h:i<L.length):L.take (i+1)=L.take i ++ [L[i]]:=by
 rw [List.take_add_one,List.getElem?_eq_getElem h];rfl
theorem Bj {L:List Int}{f:Int→Bool}(ha:∀j (hj:j<L.length),f L[j]=false):L.find? f=none:=by
 rw [List.find?_eq_none]
 intro x hx
 obtain ⟨j,hj,rfl⟩:=List.getElem_of_mem hx
 rw [ha j hj];simp
end
end Go.Proofs.YtcfhanoekniaaaaGreatDoor
namespace Go.Proofs.YtcfhanoekniaaaaGreatDoor
open Go.RowKit Go.Maps Go.Sort Go.Shelf Go.Lib
def mk (f:Int→Bool):Nat→Nat
 |0=>0
 |k+1=>mk f k ||| (if f (k:Int)=true then 2 ^ k else 0)
theorem Nr (f:Int→Bool):∀k i,(mk f k).testBit i=(decide (i<k) && f i)
 |0,i=>by simp [mk]
 |k+1,i=>by
  rw [mk,Nat.testBit_or,Nr f k i]
  by_cases hf:f (k:Int)=true
  ·rw [if_pos hf,Nat.testBit_two_pow]
   by_cases e:k=i
   ·subst e;simp [hf]
   ·have:(decide (i<k+1))=decide (i<k):=by congr 1;apply propext;omega
    simp [e,this]
  ·rw [if_neg hf,Nat.zero_testBit,Bool.or_false]
   by_cases e:i=k
   ·subst e;simp [hf]
   ·have:(decide (i<k+1))=decide (i<k):=by congr 1;apply propext;omega
    rw [this]
theorem TJ (f:Int→Bool):∀k,mk f k<2 ^ k
 |0=>by simp [mk]
 |k+1=>by
  rw [mk]
  refine Nat.or_lt_two_pow ?_ ?_
  ·exact Nat.lt_of_lt_of_le (TJ f k) (Nat.pow_le_pow_right (by omega) (by omega))
  ·split
   ·exact Nat.pow_lt_pow_right (by omega) (by omega)
   ·exact Nat.pow_pos (by omega)
def iI (f:Int→Bool):Nat:=mk f 9
theorem qD (f:Int→Bool):iI f<512:=TJ f 9
theorem ji (f:Int→Bool) (i:Nat):(iI f).testBit i=(decide (i<9) && f i):=Nr f 9 i
theorem FD:iI dI=0:=rfl
def sZ (s:Int):Int→Bool:=fun i=>decide (i=s)
def uJ (f g:Int→Bool):Int→Bool:=fun i=>f i && !g i
theorem RO {s:Nat}(h:s≤8):iI (sZ s)=2 ^ s:=by
 apply Nat.eq_of_testBit_eq
 intro i
 rw [ji,Nat.testBit_two_pow]
 unfold sZ
 by_cases e:s=i
 ·subst e;simp;omega
 ·have:¬((i:Int)=(s:Int)):=by omega
  simp [e,this]
theorem Vv (f:Int→Bool) (s:Int):iI f ||| iI (sZ s)=iI (gK f s true):=by
 apply Nat.eq_of_testBit_eq
 intro i
 rw [Nat.testBit_or,ji,ji,ji]
 unfold sZ gK
 by_cases e:(i:Int)=s<;>by_cases h9:i<9<;>simp [e,h9]
theorem OD (f g:Int→Bool):iI f &&& (18446744073709551615-iI g)=iI (uJ f g):=by
 apply Nat.eq_of_testBit_eq
 intro i
 have h1:=qD g
 have h2:18446744073709551615-iI g=2 ^ 64-(iI g+1):=by omega
 rw [Nat.testBit_and,h2,Nat.testBit_two_pow_sub_succ (by omega),ji,ji,ji]
 unfold uJ
 by_cases e:i<9
 ·have:i<64:=by omega
  simp [e,this]
 ·simp [e]
theorem OC {f:Int→Bool}(h:iI f=0):sigs.find? f=none:=by
 refine J3 (fun y h1 h2=>?_)
 have:=ji f y.toNat
 rw [h,Nat.zero_testBit,show ((y.toNat:Nat):Int)=y by omega] at this
 have h9:y.toNat<9:=by omega
 simpa [h9] using this.symm
theorem KF {f:Int→Bool}(hf:∀s,f s=true→1≤s∧s≤8) (h:iI f≠0):sigs.find? f=some ((ctz 64 (iI f):Nat):Int):=by
 obtain ⟨m,hm,_⟩:=ctzFrom_spec 64 (iI f) (by omega) (by have:=qD f;omega)
 have e:ctzFrom 64 (iI f)=ctz 64 (iI f):=by
  unfold ctz;first|rfl|(rw [if_neg h])
 rw [e] at hm
 generalize ctz 64 (iI f)=k at *
 have hk:(iI f).testBit k=true:=by
  rw [hm,Nat.testBit_two_pow_mul]
  simp
 have hl:∀j,j<k→(iI f).testBit j=false:=fun j hj=>by
  rw [hm,Nat.testBit_two_pow_mul]
  simp;omega
 rw [ji] at hk
 simp only [Bool.and_eq_true,decide_eq_true_eq] at hk
 have:=hf k hk.2
 refine J4 (x:=(k:Int)) (by omega) (fun y h1 h2=>?_) hk.2
 have h3:=hl y.toNat (by omega)
 rw [ji,show ((y.toNat:Nat):Int)=y by omega] at h3
 have h9:y.toNat<9:=by omega
 simpa [h9] using h3
def mi (w:World):Prop:=TabAt 2 Lib.deBruijn64tab w
theorem mi.lt {w:World}(h:mi w):2<w.heap.size:=World.block_lt_of_cell? w _ (h 0 (by decide))
theorem mi.keep {w w':World}(h:mi w) (hb:w'.heap[2]? = w.heap[2]?):mi w':=fun j hj=>by
 rw [World.cell?_of_block (w:=w) (a:=⟨2,j,none⟩) hb];exact h j hj
abbrev mv (f:Int→Bool):Value:=.int .u64 ((iI f:Nat):Int)
theorem IA (w:World) (s:Int) (hs:1≤s∧s≤8):Calls Tryz.prog 164 #[.int .i64 s] w fun e w'=>e=.returned (mv (sZ s))∧w'=w:=by
 have h:iI (sZ s)=2 ^ s.toNat:=by
  have:=RO (s:=s.toNat) (by omega)
  rw [show ((s.toNat:Nat):Int)=s by omega] at this
  exact this
 unfold mv
 rw [h]
 obtain h|h|h|h|h|h|h|h:s=1∨s=2∨s=3∨s=4∨s=5∨s=6∨s=7∨s=8:=by omega
 all_goals
  subst h
  go_enter Tryz.func164,Tryz.ntmps164
  go_wp2_with fail
  go_ret
  exact ⟨by first|rfl|simp,rfl⟩
theorem QN (w:World) (f:Int→Bool) (s:Int) (hs:1≤s∧s≤8):Calls Tryz.prog 150 #[mv f,.int .i64 s] w fun e w'=>e=.returned (mv (gK f s true))∧w'=w:=by
 have hO:=IA w s hs
 have h1:=qD f
 have h2:=qD (sZ s)
 have hb:=bits_or_u64_nat (iI f) (iI (sZ s)) (by omega) (by omega)
 rw [Vv] at hb
 clear h1 h2
 unfold mv at *
 generalize iI (gK f s true)=r at *
 generalize iI (sZ s)=o at *
 generalize iI f=m at *
 go_enter Tryz.func150,Tryz.ntmps150
 go_wp2_with (go_at_call 164;refine hO.mono ?_;rintro e w1 ⟨rfl,hw⟩;subst w1)
 go_ret
 exact ⟨by first|rfl|rw [hb],rfl⟩
theorem xA (w:World) (f g:Int→Bool):Calls Tryz.prog 151 #[mv f,mv g] w fun e w'=>e=.returned (mv (uJ f g))∧w'=w:=by
 have h1:=qD f
 have h2:=qD g
 have hb:=u64_andNot_nat (iI f) (iI g) (by omega) (by omega)
 rw [OD] at hb
 clear h1 h2
 unfold mv at *
 generalize iI (uJ f g)=r at *
 generalize iI g=o at *
 generalize iI f=m at *
 go_enter Tryz.func151,Tryz.ntmps151
 go_wp2_with fail
 go_ret
 exact ⟨by first|rfl|rw [hb],rfl⟩
theorem KT (w:World) (f:Int→Bool) (hf:∀s,f s=true→1≤s∧s≤8) (hT:mi w):Calls Tryz.prog 163 #[mv f] w fun e w'=>e=.returned (.int .i64 ((sigs.find? f).getD 0))∧w'=w:=by
 have hlt:=qD f
 by_cases h0:iI f=0
 ·rw [OC h0]
  unfold mv
  rw [h0]
  go_enter Tryz.func163,Tryz.ntmps163
  go_wp2_with fail
  go_ret
  exact ⟨rfl,rfl⟩
 ·rw [KF hf h0]
  have hC:=Any7.bits_TrailingZeros Tryz.tzL (iI f) (by omega) w (fun _=>hT)
  change Calls Tryz.prog 251 _ _ _ at hC
  unfold mv
  generalize ctz 64 (iI f)=r at *
  generalize iI f=m at *
  have hm:((m:Int) == 0)=false:=by simpa using h0
  have hm2:¬(m:Int)=0:=by omega
  clear hT
  go_enter Tryz.func163,Tryz.ntmps163
  go_wp2_with (go_at_call 251;refine hC.mono ?_;rintro e w1 ⟨rfl,hw⟩;subst w1)
  go_ret
  exact ⟨rfl,rfl⟩
end Go.Proofs.YtcfhanoekniaaaaGreatDoor
namespace Go.Proofs.YtcfhanoekniaaaaGreatDoor
open Go.RowKit Go.Maps Go.Sort
def Mr (p:Pr):Int→Bool:=if p.state=1 then p.ig else dI
abbrev qv (p:Pr):Value:=.agg #[.int .i64 p.state,.int .i64 p.parent,.int .i64 p.code,mv p.wt,mv (Mr p)]
abbrev qv0:Value:=.agg #[.int .i64 0,.int .i64 0,.int .i64 0,.int .u64 0,.int .u64 0]
theorem UN (w:World):(zeroValue 219).run Tryz.prog w=.ok qv0 w:=by kernel_rfl
theorem Qu (a b c d e:Int) (w:World):(Instr.field 219 (.agg #[.int .i64 a,.int .i64 b,.int .i64 c,.int .u64 d,.int .u64 e]) 0).run Tryz.prog w=.ok (.int .i64 a) w∧(Instr.field 219 (.agg #[.int .i64 a,.int .i64 b,.int .i64 c,.int .u64 d,.int .u64 e]) 1).run Tryz.prog w=.ok (.int .i64 b) w∧(Instr.field 219 (.agg #[.int .i64 a,.int .i64 b,.int .i64 c,.int .u64 d,.int .u64 e]) 2).run Tryz.prog w=.ok (.int .i64 c) w∧(Instr.field 219 (.agg #[.int .i64 a,.int .i64 b,.int .i64 c,.int .u64 d,.int .u64 e]) 4).run Tryz.prog w=.ok (.int .u64 e) w:=by
 refine ⟨?_,?_,?_,?_⟩<;>kernel_rfl
structure JD (P:Ps):Prop where
 Ay:∀n p,P n=some p→∀s,p.wt s=true→p.ig s=false
 dead:∀n p,P n=some p→p.state=2→p.wt=dI
structure QM (w:World) (t g:Nat) (P:Ps) (c:Nat):Prop where
 head:w.heap[t]? = some (.cells #[.map (some g)] 222)
 map:aG w g c (fun n=>(P n).map qv)
 key:∀n p,P n=some p→1≤n∧n≤24
structure QJ (w:World) (t g:Nat) (P:Ps) (c:Nat):Prop extends QM w t g P c where
 ok:lV P
 dj:JD P
section
variable {w w':World}{t g c:Nat}{P:Ps}{n m:Int}{p:Pr}
theorem QM.Uf (h:QM w t g P c):t<w.heap.size:=by
 rcases Nat.lt_or_ge t w.heap.size with z|z
 ·exact z
 ·have:=h.head;rw [Array.getElem?_eq_none (by omega)] at this;cases this
theorem QM.gt (h:QM w t g P c):g≠t:=fun e=>by
 obtain ⟨es,cl,hm⟩:=h.map.isMap
 rw [e,h.head] at hm;cases hm
theorem QM.keep (h:QM w t g P c) (h1:w'.heap[t]? = w.heap[t]?) (h2:w'.heap[g]? = w.heap[g]?):QM w' t g P c:=⟨h1.trans h.head,h.map.keep h2,h.key⟩
theorem QM.below (h:QM w t g P c) (hb:Below w.heap.size w w'):QM w' t g P c:=h.keep (hb.block t h.Uf) (hb.block g h.map.lt)
theorem QM.c0 (h:QM w t g P c):w.cell? ⟨t,0,none⟩=some (.map (some g)):=by rw [cell_of_row _ _ _ _ _ _ h.head];rfl
theorem QM.num (h:QM w t g P c):qa P c:=h.map.isN.congr (fun x=>by cases P x<;>rfl)
theorem QM.few (h:QM w t g P c):c≤24:=by
 have:=h.num.few (B:=24) (by omega) (fun x hx=>by
  obtain ⟨p,hp⟩:=Option.isSome_iff_exists.1 hx
  have:=h.key x p hp;omega)
 omega
theorem QM.look (h:QM w t g P c) (n:Int) (hn:(Lit.int .i64 n).wf=true):(Instr.lookup 220 (.map (some g)) (.int .i64 n) false).run Tryz.prog w=.ok (match P n with|some p=>qv p|none=>qv0) w:=by
 rw [h.map.look Tryz.underlying220 (UN _) n hn]
 cases P n<;>rfl
theorem QM.wz (h:QM w t g P c) (hp:P n=some p) (hn:(Lit.int .i64 n).wf=true):(Instr.lookup 220 (.map (some g)) (.int .i64 n) false).run Tryz.prog w=.ok (.agg #[.int .i64 p.state,.int .i64 p.parent,.int .i64 p.code,.int .u64 ((iI p.wt:Nat):Int),.int .u64 ((iI (Mr p):Nat):Int)]) w:=by
 rw [h.look n hn,hp]
def qF (P:Ps) (n:Int):Int×Int×Int×Nat×Nat:=match P n with|some p=>(p.state,p.parent,p.code,iI p.wt,iI (Mr p)) | none=>(0,0,0,0,0)
theorem XK:(qF P n).1=gJ P n:=by unfold qF;cases h:P n with|none=>rw [il h] | some p=>rw [gq h]
theorem Va:(qF P n).2.1=sW P n:=by unfold qF;cases h:P n with|none=>rw [Kr h] | some p=>rw [jY h]
theorem QM.XT (h:QM w t g P c) (n:Int) (hn:(Lit.int .i64 n).wf=true):(Instr.lookup 220 (.map (some g)) (.int .i64 n) false).run Tryz.prog w=.ok (.agg #[.int .i64 (qF P n).1,.int .i64 (qF P n).2.1,.int .i64 (qF P n).2.2.1,.int .u64 ((qF P n).2.2.2.1:Nat),.int .u64 ((qF P n).2.2.2.2:Nat)]) w:=by
 rw [h.look n hn]
 unfold qF
 cases P n<;>rfl
theorem QM.uL (h:QM w t g P c) (n:Int) (hn:(Lit.int .i64 n).wf=true):Calls Tryz.prog 162 #[wp t,.int .i64 n] w fun e w'=>e=.returned (.agg #[.int .i64 (qF P n).1,.int .i64 (qF P n).2.1,.int .i64 (qF P n).2.2.1,.int .u64 ((qF P n).2.2.2.1:Nat),.int .u64 ((qF P n).2.2.2.2:Nat)])∧Below w.heap.size w w':=by
 have hA:∀o,Below w.heap.size w (w.alloc o):=fun o=>(Below.refl _ w).alloc (Nat.le_refl _) o
 have hl:∀o,(Instr.lookup 220 (.map (some g)) (.int .i64 n) false).run Tryz.prog (w.alloc o)=_:=fun o=>(h.below (hA o)).XT n hn
 have c0:∀o,(w.alloc o).cell? ⟨t,0,none⟩=some (.map (some g)):=fun o=>(h.below (hA o)).c0
 have hlt:=h.Uf
 clear h
 generalize (qF P n).1=x1 at *
 generalize (qF P n).2.1=x2 at *
 generalize (qF P n).2.2.1=x3 at *
 generalize (qF P n).2.2.2.1=x4 at *
 generalize (qF P n).2.2.2.2=x5 at *
 go_enter Tryz.func162,Tryz.ntmps162
 go_wp2_with fail
 refine bodyPost_ret (v:=.agg #[.int .i64 x1,.int .i64 x2,.int .i64 x3,.int .u64 (x4:Int),.int .u64 (x5:Int)]) (by simp [results,Tryz.results162,go_sem]) rfl ⟨rfl,?_⟩
 repeat first|exact Below.refl _ _|refine Below.alloc ?_ (by first|omega|(simp<;>omega)) _|refine Below.setCell ?_ (by first|omega|(simp<;>omega)) _
theorem QM.state (h:QM w t g P c) (n:Int) (hn:(Lit.int .i64 n).wf=true):Calls Tryz.prog 112 #[wp t,.int .i64 n] w fun e w'=>e=.returned (.int .i64 (gJ P n))∧Below w.heap.size w w':=by
 have hC:=h.uL n hn
 rw [←XK]
 have hf:=fun W=>(Qu (qF P n).1 (qF P n).2.1 (qF P n).2.2.1 ((qF P n).2.2.2.1:Nat) ((qF P n).2.2.2.2:Nat) W).1
 generalize (qF P n).1=x1 at *
 generalize (qF P n).2.1=x2 at *
 generalize (qF P n).2.2.1=x3 at *
 generalize (qF P n).2.2.2.1=x4 at *
 generalize (qF P n).2.2.2.2=x5 at *
 go_enter Tryz.func112,Tryz.ntmps112
 go_wp2_with (go_at_call 162;refine hC.mono ?_;rintro e w1 ⟨rfl,hb⟩)
 go_ret
 exact ⟨rfl,hb⟩
theorem QM.parent (h:QM w t g P c) (n:Int) (hn:(Lit.int .i64 n).wf=true):Calls Tryz.prog 248 #[wp t,.int .i64 n] w fun e w'=>e=.returned (.int .i64 (sW P n))∧Below w.heap.size w w':=by
 have hC:=h.uL n hn
 rw [←Va]
 have hf:=fun W=>(Qu (qF P n).1 (qF P n).2.1 (qF P n).2.2.1 ((qF P n).2.2.2.1:Nat) ((qF P n).2.2.2.2:Nat) W).2.1
 generalize (qF P n).1=x1 at *
 generalize (qF P n).2.1=x2 at *
 generalize (qF P n).2.2.1=x3 at *
 generalize (qF P n).2.2.2.1=x4 at *
 generalize (qF P n).2.2.2.2=x5 at *
 go_enter Tryz.func248,Tryz.ntmps248
 go_wp2_with (go_at_call 162;refine hC.mono ?_;rintro e w1 ⟨rfl,hb⟩)
 go_ret
 exact ⟨rfl,hb⟩
theorem QM.runs (h:QM w t g P c) (n:Int) (hn:(Lit.int .i64 n).wf=true):Calls Tryz.prog 137 #[wp t,.int .i64 n] w fun e w'=>e=.returned (aJ (if az P n=true then 0 else 7))∧Below w.heap.size w w':=by
 have hC:=h.state n hn
 cases nX:az P n with
 |true=>
  have hs:gJ P n=1:=by unfold az at nX;simpa using nX
  rw [hs] at hC
  rw [if_pos rfl,aD]
  go_enter Tryz.func137,Tryz.ntmps137
  go_wp2_with (go_at_call 112;refine hC.mono ?_;rintro e w1 ⟨rfl,hb⟩)
  go_ret
  exact ⟨rfl,hb⟩
 |false=>
  have hs:gJ P n≠1:=by unfold az at nX;simpa using nX
  rw [if_neg (by simp),aB (by omega)]
  have hs':(gJ P n == 1)=false:=by simpa using hs
  generalize gJ P n=s at *
  go_enter Tryz.func137,Tryz.ntmps137
  go_wp2_with (go_at_call 112;refine hC.mono ?_;rintro e w1 ⟨rfl,hb⟩)
  go_ret
  exact ⟨rfl,hb⟩
theorem QJ.below (h:QJ w t g P c) (hb:Below w.heap.size w w'):QJ w' t g P c:=⟨h.toQM.below hb,h.ok,h.dj⟩
end
theorem RA {P:Ps}{n:Int}{p:Pr}(hp:P n=some p) (f:Pr→Pr):q8 P n f=j5 P n (f p):=by
 funext i
 unfold q8 j5
 by_cases e:i=n
 ·subst e;rw [if_pos rfl,if_pos rfl,hp];rfl
 ·rw [if_neg e,if_neg e]
theorem uk {P:Ps}{n i:Int}{p q:Pr}(h:j5 P n p i=some q):(i=n∧q=p)∨(i≠n∧P i=some q):=by
 unfold j5 at h
 split at h
 ·rename_i e;exact .inl ⟨e,(Option.some.inj h).symm⟩
 ·rename_i e;exact .inr ⟨e,h⟩
abbrev PY (g:Nat) (w w':World):Prop:=Wt (fun i=>i=g) w w'
def Hf (w:World) (t g:Nat) (P':Ps) (w':World):Prop:=∃c',QJ w' t g P' c'∧PY g w w'
section
variable {w w' V:World}{t g c:Nat}{P:Ps}{n m sig pid:Int}{p:Pr}
theorem PY.ofB (hb:Below w.heap.size w w'):PY g w w':=.below _ hb
theorem Hf.same (h:QJ w t g P c) (hb:Below w.heap.size w w'):Hf w t g P w':=⟨c,h.below hb,.ofB hb⟩
theorem QM.put (h:QM w t g P c) (hV:Below w.heap.size w V) (n:Int) (hn:1≤n∧n≤24) (p:Pr):∃w5,(Instr.mapUpdate 220 (.map (some g)) (.int .i64 n) (qv p)).run Tryz.prog V=.ok () w5∧QM w5 t g (j5 P n p) (if (P n).isSome then c else c+1)∧PY g w w5:=by
 have hc:=h.few
 have hv:=h.below hV
 obtain ⟨w5,hrun,m5,g5⟩:=hv.map.put Tryz.underlying220 (by unfold maxLen;omega) n (yH (by omega)) (qv p)
 have hM:(fun i=>if i=n then some (qv p) else (P i).map qv)=fun i=>(j5 P n p i).map qv:=by
  funext i;unfold j5;split<;>rfl
 rw [hM,Option.isSome_map] at m5
 refine ⟨w5,hrun,⟨(g5.block t hv.Uf (fun z=>h.gt (Option.some.inj z).symm)).trans hv.head,m5,fun i q e=>?_⟩,?_⟩
 ·rcases uk e with ⟨rfl,_⟩|⟨_,e⟩
  ·exact hn
  ·exact h.key i q e
 ·exact (Wt.below _ hV).trans (.grown g5 rfl)
theorem JD.first:JD fo:=by
 have hh:∀n p,fo n=some p→p=⟨0,1,0,dI,dI⟩:=fun n p e=>by
  unfold fo at e
  split at e
  ·exact (Option.some.inj e).symm
  ·cases e
 refine ⟨fun n p e s z=>?_,fun n p e z=>?_⟩
 ·have:=hh n p e;subst this;cases z
 ·have:=hh n p e;subst this;rfl
theorem JD.set (h:JD P) (h1:∀s,p.wt s=true→p.ig s=false) (h2:p.state=2→p.wt=dI):JD (j5 P n p):=by
 refine ⟨fun i q e s z=>?_,fun i q e z=>?_⟩
 ·rcases uk e with ⟨_,rfl⟩|⟨_,e⟩
  ·exact h1 s z
  ·exact h.Ay i q e s z
 ·rcases uk e with ⟨_,rfl⟩|⟨_,e⟩
  ·exact h2 z
  ·exact h.dead i q e z
theorem QJ.turn (h:QJ w t g P c) (hV:Below w.heap.size w V) (hp:P n=some p) (f:Pr→Pr) (ok:lV (q8 P n f)) (h1:∀s,(f p).wt s=true→(f p).ig s=false) (h2:(f p).state=2→(f p).wt=dI):∃w5,(Instr.mapUpdate 220 (.map (some g)) (.int .i64 n) (qv (f p))).run Tryz.prog V=.ok () w5∧Hf w t g (q8 P n f) w5:=by
 obtain ⟨w5,hrun,m5,s5⟩:=h.toQM.put hV n (h.key n p hp) (f p)
 rw [RA hp] at *
 exact ⟨w5,hrun,_,⟨m5,ok,h.dj.set h1 h2⟩,s5⟩
theorem EN (w:World) (x:Int):Calls Tryz.prog 149 #[.int .i64 x] w fun e w'=>e=.returned (.bool (decide (1≤x) && decide (x≤8)))∧w'=w:=by
 by_cases h1:1≤x<;>by_cases h2:x≤8
 all_goals
  simp only [h1,h2,decide_true,decide_false,Bool.and_true,Bool.and_false]
  go_enter Tryz.func149,Tryz.ntmps149
  go_wp2_with fail
  go_ret
  exact ⟨rfl,rfl⟩
theorem BI (h:p.state=1):Mr p=p.ig:=if_pos h
theorem KY (hd:∀s,p.wt s=true→p.ig s=false) (sig:Int):uJ (gK p.wt sig true) p.ig=if p.ig sig=true then p.wt else gK p.wt sig true:=by
 funext i
 unfold uJ gK
 by_cases e:i=sig
 ·subst e
  cases hi:p.ig i with
  |true=>
   have:p.wt i=false:=by cases hw:p.wt i with|false=>rfl|true=>have:=hd i hw;rw [hi] at this;cases this
   simp [this]
  |false=>simp
 ·have hz:(p.wt i && !p.ig i)=p.wt i:=by
   cases hw:p.wt i with
   |false=>rfl
   |true=>rw [hd i hw];rfl
  rw [if_neg e,hz]
  split<;>simp [e]
theorem QJ.kill (h:QJ w t g P c) (n sig:Int) (hn:(Lit.int .i64 n).wf=true):Calls Tryz.prog 61 #[wp t,.int .i64 n,.int .i64 sig] w fun e w'=>e=.returned (aJ (fP P n sig))∧Hf w t g (if fP P n sig=0 then ku P n sig else P) w':=by
 have hin:=EN w sig
 have hr:=h.toQM.runs n hn
 by_cases hs:1≤sig∧sig≤8
 ·rw [decide_eq_true hs.1,decide_eq_true hs.2] at hin
  simp only [Bool.and_self] at hin
  cases nX:az P n with
  |false=>
   rw [nX,if_neg (by simp),aB (by omega)] at hr
   have hE:fP P n sig=7:=by unfold fP;rw [if_neg (by omega),nX];rfl
   rw [hE,if_neg (by omega),aB (by omega)]
   go_enter Tryz.func61,Tryz.ntmps61
   go_wp2_with (first
    |(go_at_call 149;refine hin.mono ?_;rintro e w1 ⟨rfl,hw⟩;subst w1)
    |(go_at_call 137;refine hr.mono ?_;rintro e w1 ⟨rfl,hb⟩))
   go_ret
   exact ⟨rfl,.same h hb⟩
  |true=>
   rw [nX,if_pos rfl,aD] at hr
   have hE:fP P n sig=0:=by unfold fP;rw [if_neg (by omega),nX];rfl
   rw [hE,if_pos rfl,aD]
   obtain ⟨p,hp,hst⟩:=bq.1 nX
   have hd:=h.dj.Ay n p hp
   have hig:=BI hst
   have hkl:=KY hd sig
   have G9:=fun W=>QN W p.wt sig hs
   have hwo:=fun W=>xA W (gK p.wt sig true) p.ig
   rw [hkl] at hwo
   have hput:=fun V hV=>@QJ.turn w V t g c P n p h hV hp (fun p=>if p.ig sig=true then p else { p with wt:=gK p.wt sig true }) (h.ok.kill hs) (fun s z=>by
    by_cases hi:p.ig sig=true
    ·simp only [if_pos hi] at z ⊢;exact hd s z
    ·simp only [if_neg hi] at z ⊢
     rcases pJ z with ⟨rfl,_⟩|z
     ·simpa using hi
     ·exact hd s z) (fun z=>by
    by_cases hi:p.ig sig=true
    ·simp only [if_pos hi] at z;omega
    ·simp only [if_neg hi] at z;omega)
   have hq:qv (if p.ig sig=true then p else { p with wt:=gK p.wt sig true })=.agg #[.int .i64 1,.int .i64 p.parent,.int .i64 p.code,mv (if p.ig sig=true then p.wt else gK p.wt sig true),mv p.ig]:=by
    by_cases hi:p.ig sig=true
    ·rw [if_pos hi,if_pos hi];unfold qv;rw [hig,hst]
    ·rw [if_neg hi,if_neg hi];unfold qv Mr;simp only [hst,if_true]
   simp only [hq] at hput
   have Uv:Aside _:=hput
   have hlo:=fun V (hV:Below w.heap.size w V)=>(h.toQM.below hV).wz hp hn
   rw [hst,hig] at hlo
   have hco:=fun V (hV:Below w.heap.size w V)=>(h.toQM.below hV).c0
   have ZC:Aside _:=hlo
   have MB:Aside _:=hco
   clear hput hq hkl hig hd hlo hco
   generalize (if p.ig sig=true then p.wt else gK p.wt sig true)=f2 at *
   generalize hf1:gK p.wt sig true=f1 at *
   clear hf1
   go_enter Tryz.func61,Tryz.ntmps61
   go_upto_region 6 with (first
    |(go_at_call 149;refine hin.mono ?_;rintro e w1 ⟨rfl,hw⟩;subst w1)
    |(go_at_call 137;refine hr.mono ?_;rintro e w1 ⟨rfl,hb⟩))
   have c1:=MB.out w1 hb
   have l1:=ZC.out w1 hb
   go_upto_region 7 with fail
   clear c1 l1
   go_region_with (first
    |(go_at_call 150;refine (G9 _).mono ?_;rintro e w2 ⟨rfl,hw⟩;subst w2)
    |(go_at_call 151;refine (hwo _).mono ?_;rintro e w2 ⟨rfl,hw⟩;subst w2))
   all_goals
    have hA:Below w.heap.size w (w1.alloc (.cells #[.int .i64 1,.int .i64 p.parent,.int .i64 p.code,.int .u64 ((iI f2:Nat):Int),.int .u64 ((iI p.ig:Nat):Int)] 219)):=hb.alloc hb.size _
    obtain ⟨w5,hrun,h5⟩:=Uv.out _ (dA (dA hA))
    have c2:=MB.out _ (dA hA)
    clear hA G9 hwo hr hin
    go_upto_region 8 with fail
    go_region
    all_goals
     go_wp2_with fail
     go_ret
     exact ⟨rfl,h5⟩
 ·have hE:fP P n sig=2:=by unfold fP;rw [if_pos hs]
  rw [hE,if_neg (by omega),aB (by omega)]
  have hb:(decide (1≤sig) && decide (sig≤8))=false:=by
   rw [Bool.and_eq_false_iff,decide_eq_false_iff_not,decide_eq_false_iff_not];omega
  rw [hb] at hin
  go_enter Tryz.func61,Tryz.ntmps61
  go_wp2_with (go_at_call 149;refine hin.mono ?_;rintro e w1 ⟨rfl,hw⟩;subst w1)
  go_ret
  exact ⟨rfl,.same h (Below.refl _ _)⟩
end
section
variable {w w' V:World}{t g c:Nat}{P:Ps}{n m sig pid:Int}{p:Pr}
theorem OA (w:World):Calls Tryz.prog 50 #[] w fun e w'=>∃t g,e=.returned (wp t)∧QJ w' t g fo 1∧Below w.heap.size w w'∧w.heap.size≤t∧w.heap.size≤g:=by
 have hmm:=@run_makeMap Tryz.prog
 have p0:aG (w.alloc (.map #[] 0)) w.heap.size 0 (fun _=>none):=aG.made w
 have hsz:(w.alloc (.map #[] 0)).heap.size=w.heap.size+1:=by show (w.heap.push _).size=_;rw [Array.size_push]
 have bA:Below w.heap.size w (w.alloc (.map #[] 0)):=(Below.refl _ w).alloc (Nat.le_refl _) _
 obtain ⟨w1,hrun,q0,g1⟩:=p0.put Tryz.underlying220 (by unfold maxLen;omega) 1 (by decide) (.agg #[.int .i64 1,.int .i64 0,.int .i64 0,.int .u64 0,.int .u64 0])
 have b1:Below w.heap.size w w1:=⟨g1.os.trans bA.os,g1.tape.trans bA.tape,g1.output.trans bA.output,Nat.le_trans bA.size g1.size,fun i hi=>(g1.block i (by rw [hsz];omega) (fun e=>by have:=Option.some.inj e;omega)).trans (bA.block i hi)⟩
 have hz1:w.heap.size+1≤w1.heap.size:=by have:=g1.size;rw [hsz] at this;exact this
 have hfin:QJ (w1.alloc (.cells #[.map (some w.heap.size)] 222)) w1.heap.size w.heap.size fo 1:=by
  refine ⟨⟨?_,?_,lV.first.key⟩,.first,.first⟩
  ·show (w1.heap.push _)[w1.heap.size]? = _
   rw [Array.getElem?_push,if_pos rfl]
  ·have e:(fun i=>if i=(1:Int) then some (Value.agg #[.int .i64 1,.int .i64 0,.int .i64 0,.int .u64 0,.int .u64 0]) else (fun _=>none) i)=fun n=>(fo n).map qv:=by
    funext i;unfold fo
    by_cases e:i=1
    ·simp only [e,if_true,Option.map_some];rfl
    ·simp [e]
   rw [←e]
   exact q0.keep (Below.heap_alloc _ _ _ q0.lt)
 have b2:Below w.heap.size w (w1.alloc (.cells #[.map (some w.heap.size)] 222)):=b1.alloc b1.size _
 clear q0 p0 g1 bA b1 hsz
 go_enter Tryz.func50,Tryz.ntmps50
 go_wp2_with fail
 go_ret
 exact ⟨w1.heap.size,w.heap.size,rfl,hfin,b2,by omega,Nat.le_refl _⟩
theorem OP (f:Int→Bool) (sig:Int):uJ f (sZ sig)=gK f sig false:=by
 funext i
 unfold uJ gK sZ
 by_cases e:i=sig<;>simp [e]
end
section
variable {w w' V:World}{t g c:Nat}{P:Ps}{n m sig pid:Int}{p:Pr}
def Mq (P:Ps) (n:Int):Int→Bool:=if az P n=true then P6 P n else dI
theorem Ik:bu P n=(sigs.find? (Mq P n)).getD 0:=by
 unfold bu Mq
 cases h:az P n with
 |false=>simp [dI,sigs]
 |true=>simp
theorem XJ (ok:lV P) (dj:JD P):(qF P n).2.2.2.1=iI (Mq P n):=by
 unfold qF Mq
 cases h:P n with
 |none=>
  have:az P n=false:=by unfold az;rw [il h];rfl
  rw [this,if_neg (by simp),FD]
 |some p=>
  cases hr:az P n with
  |true=>simp only [if_true];unfold P6;rw [h];rfl
  |false=>
   have hs:p.state=2:=by
    unfold az at hr;rw [gq h] at hr
    have:=ok.st n p h
    simp only [decide_eq_false_iff_not] at hr
    omega
   simp only [Bool.false_eq_true,if_false]
   rw [dj.dead n p h hs]
theorem UO (ok:lV P):∀s,Mq P n s=true→1≤s∧s≤8:=fun s z=>by
 unfold Mq at z
 split at z
 ·unfold P6 at z
  cases h:P n with
  |none=>rw [h] at z;cases z
  |some p=>rw [h] at z;exact ok.wt n p h s z
 ·cases z
theorem FX {f:Int→Bool}{x:Int}(h:sigs.find? f=some x):(1≤x∧x≤8)∧f x=true:=by
 have h1:=List.mem_of_find?_eq_some h
 have h2:=List.find?_some h
 unfold sigs at h1
 simp only [List.mem_cons,List.not_mem_nil,or_false] at h1
 exact ⟨by omega,h2⟩
theorem QJ.take (h:QJ w t g P c) (hT:mi w) (n:Int) (hn:(Lit.int .i64 n).wf=true):Calls Tryz.prog 75 #[wp t,.int .i64 n] w fun e w'=>e=.returned (.int .i64 (bu P n))∧Hf w t g (fU P n) w':=by
 have hC:=h.toQM.uL n hn
 have hw:=XJ (n:=n) h.ok h.dj
 have hL:=fun W hW=>KT W (Mq P n) (UO h.ok) hW
 rw [←Ik] at hL
 have hlt:=hT.lt
 have hT1:∀V,Below w.heap.size w V→mi V:=fun V hV=>hT.keep (hV.block _ hlt)
 by_cases h0:bu P n=0
 ·have hQ:fU P n=P:=by unfold fU;rw [if_pos h0]
  rw [hQ,h0]
  rw [h0] at hL
  have hfin:=fun V (hV:Below w.heap.size w V)=>Hf.same h hV
  rw [hw] at hC
  generalize (qF P n).1=x1 at *
  generalize (qF P n).2.1=x2 at *
  generalize (qF P n).2.2.1=x3 at *
  generalize (qF P n).2.2.2.2=x5 at *
  generalize Mq P n=f at *
  clear hw hQ h0 hT
  go_enter Tryz.func75,Tryz.ntmps75
  go_upto_region 2 with (go_at_call 162;refine hC.mono ?_;rintro e w1 ⟨rfl,hb⟩)
  have hA:=hb.alloc hb.size (.cells #[.int .i64 x1,.int .i64 x2,.int .i64 x3,.int .u64 ((iI f:Nat):Int),.int .u64 (x5:Int)] 219)
  have hL1:=hL _ (hT1 _ hA)
  clear hL hT1 hC
  go_wp2_with (go_at_call 163;refine hL1.mono ?_;rintro e w2 ⟨rfl,hw2⟩;subst w2)
  go_ret
  exact ⟨rfl,hfin _ hA⟩
 ·have nX:az P n=true:=by
   cases z:az P n with
   |true=>rfl
   |false=>exact absurd (by unfold bu;rw [if_pos z]) h0
  obtain ⟨p,hp,hst⟩:=bq.1 nX
  have hwq:Mq P n=p.wt:=by unfold Mq;rw [if_pos nX];unfold P6;rw [hp];rfl
  have Yk:(1≤bu P n∧bu P n≤8):=by
   have e:=Ik (P:=P) (n:=n)
   cases z:sigs.find? (Mq P n) with
   |none=>rw [z] at e;exact absurd e h0
   |some x=>rw [z] at e;rw [e];exact (FX z).1
  have hd:=h.dj.Ay n p hp
  have hQ:fU P n=q8 P n (fun p=>{ p with wt:=gK p.wt (bu P n) false }):=by unfold fU;rw [if_neg h0]
  have hok:=h.ok.take n
  rw [hQ] at hok ⊢
  have hput:=fun V hV=>@QJ.turn w V t g c P n p h hV hp (fun p=>{ p with wt:=gK p.wt (bu P n) false }) hok (fun s z=>by
   rcases pJ z with ⟨_,z⟩|z
   ·cases z
   ·exact hd s z) (fun z=>by simp only at z;omega)
  have hig:=BI hst
  have hq:qv { p with wt:=gK p.wt (bu P n) false }=.agg #[.int .i64 1,.int .i64 p.parent,.int .i64 p.code,mv (gK p.wt (bu P n) false),mv p.ig]:=by
   unfold qv Mr;simp only [hst,if_true]
  simp only [hq] at hput
  have hF:qF P n=(1,p.parent,p.code,iI p.wt,iI p.ig):=by unfold qF;rw [hp];simp only [hst,hig]
  rw [hF] at hC
  rw [hwq] at hL
  have hon:=fun W=>IA W (bu P n) Yk
  have hwo:=fun W=>xA W p.wt (sZ (bu P n))
  rw [OP] at hwo
  have hco:=fun V (hV:Below w.heap.size w V)=>(h.toQM.below hV).c0
  have Uv:Aside _:=hput
  have MB:Aside _:=hco
  have h0b:(bu P n == 0)=false:=by simpa using h0
  simp only at hC
  clear hw hQ hT hwq hd hok hput hq hig hF hco Yk
  generalize q8 P n (fun p=>{ p with wt:=gK p.wt (bu P n) false })=P2 at *
  generalize gK p.wt (bu P n) false=f2 at *
  generalize sZ (bu P n)=o1 at *
  generalize bu P n=S at *
  go_enter Tryz.func75,Tryz.ntmps75
  go_upto_region 2 with (go_at_call 162;refine hC.mono ?_;rintro e w1 ⟨rfl,hb⟩)
  have YG:=hb.alloc hb.size (.cells #[.int .i64 1,.int .i64 p.parent,.int .i64 p.code,.int .u64 ((iI p.wt:Nat):Int),.int .u64 ((iI p.ig:Nat):Int)] 219)
  have hL1:=hL _ (hT1 _ YG)
  clear hL hT1 hC
  have hA:=hb.alloc hb.size (.cells #[.int .i64 1,.int .i64 p.parent,.int .i64 p.code,.int .u64 ((iI f2:Nat):Int),.int .u64 ((iI p.ig:Nat):Int)] 219)
  obtain ⟨w5,hrun,h5⟩:=Uv.out _ (dA (dA hA))
  have c2:=MB.out _ (dA hA)
  clear hA YG
  go_upto_region 5 with (go_at_call 163;refine hL1.mono ?_;rintro e w2 ⟨rfl,hw2⟩;subst w2)
  go_region_with (first
   |(go_at_call 164;refine (hon _).mono ?_;rintro e w2 ⟨rfl,hw⟩;subst w2)
   |(go_at_call 151;refine (hwo _).mono ?_;rintro e w2 ⟨rfl,hw⟩;subst w2))
  all_goals
   clear hwo hon hL1
   go_upto_region 6 with fail
   go_region
   all_goals
    go_wp2_with fail
    go_ret
    exact ⟨rfl,h5⟩
end
end Go.Proofs.YtcfhanoekniaaaaGreatDoor

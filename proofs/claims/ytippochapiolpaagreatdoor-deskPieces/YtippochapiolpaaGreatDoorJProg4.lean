/- Ours. -/
import Derived.Test.YtippochapiolpaaGreatDoorJAbs
import Derived.Test.YtippochapiolpaaGreatDoorShelfP
set_option maxHeartbeats 4000000
set_option maxRecDepth 100000
namespace Go.Proofs.YtippochapiolpaaGreatDoor
open Go.Proofs.Tryz(func162 func163 ntmps162 ntmps163 prog underlying127)
section
open Go.RowKit Go.Maps
theorem uq{n:Int}(h:-9223372036854775808<=n/\n<=9223372036854775807):(Lit.int .i64 n).wf=true:=by
 have a:IntKind.min .i64=-9223372036854775808:=rfl;have b:IntKind.max .i64=9223372036854775807:=rfl;simp[Lit.wf,a,b];omega
theorem nM{P:Program}{c:Array Oper}{b:List Oper}{o:Oper}{a:Act}{w:World}{Q:Exit->Act->World->Prop}(d:o.guard=none)(s x:Operand)(t k:TypeId)
 (m:o.op=.call { callee:=.builtin .delete,args:=#[s,x],argTypes:=#[t,k] }) (v y f:Value) (e:World) (j:a.eval s=v) (i:a.eval x=y)
 (l:∀g,(Builtin.delete_ #[t,k] g #[v,y]).run P w=.ok f e) (h:wpList P c Q b (a.put o.dst f) e):wpList P c Q (o::b) a w:=by
 refine wpList_plain d fun K n=>?_;unfold Oper.wp execOp;simp only[m,resolve,invoke,builtin,Sem.run_bind,Sem.run_pure,Result.andThen_ok,List.map_toArray,List.map_cons,List.map_nil,j,i,l];exact n _ _ h
theorem aam(P:Ps)(n:Int)(f g:Pr->Pr):vP (vP P n f) n g=vP P n (fun p=>g (f p)):=by
 funext i;unfold vP;by_cases e:i=n
 ·simp only[e,if_true];cases P n<;>rfl
 ·simp only[e,if_false]
theorem RU{P:Ps}{n:Int}{p:Pr}(h:P n=some p)(f:Pr->Pr):vP P n f n=some (f p):=by
 unfold vP;rw[if_pos rfl,h];rfl
theorem Oe{f:Int->Bool}{x:Int}(d:1<=x/\x<=8)(c:∀y,1<=y->y<x->f y=false)(b:f x=true):sigs.find? f=some x:=by
 have a:∀y,1<=y->y<x->f y=false:=c;unfold sigs;obtain h|h|h|h|h|h|h|h:x=1\/x=2\/x=3\/x=4\/x=5\/x=6\/x=7\/x=8:=by omega
 all_goals
  subst h;simp only[List.find?_cons,b];try simp only[a 1 (by omega) (by omega)]
  try simp only[a 2 (by omega) (by omega)]
  try simp only[a 3 (by omega) (by omega)]
  try simp only[a 4 (by omega) (by omega)]
  try simp only[a 5 (by omega) (by omega)]
  try simp only[a 6 (by omega) (by omega)]
  try simp only[a 7 (by omega) (by omega)]
theorem Od{f:Int->Bool}(b:∀y,1<=y->y<9->f y=false):sigs.find? f=none:=by
 rw[List.find?_eq_none];intro x a;unfold sigs at a;simp only[List.mem_cons,List.not_mem_nil,or_false] at a;rw[b x (by omega) (by omega)];simp
theorem Wu{d c:List Int}(h:d.Pairwise (· < ·))(e:c.Pairwise (· < ·))(f:∀x,x∈d↔x∈c):d=c:=by
 have p:d.Perm c:=(List.perm_ext_iff_of_nodup (h.imp (fun z=>by omega)) (e.imp (fun z=>by omega))).2 f;exact p.eq_of_pairwise (le:=(· < ·)) (fun a b _ _ i g=>by omega) h e
theorem V9{d:List Int}(h:d.Nodup):(d.mergeSort (fun x y=>decide (x<=y))).Pairwise (· < ·):=by
 have g:∀a b c:Int,decide (a<=b)=true->decide (b<=c)=true->decide (a<=c)=true:=fun a b c e f=>by simp only[decide_eq_true_eq] at *;omega
 have i:∀a b:Int,(decide (a<=b) || decide (b<=a))=true:=fun a b=>by simp only[Bool.or_eq_true,decide_eq_true_eq];omega
 have e:=List.pairwise_mergeSort g i d;have f:(d.mergeSort (fun x y=>decide (x<=y))).Nodup:=(List.mergeSort_perm d _).nodup_iff.2 h;exact e.imp₂ (fun {a b} e f=>by simp only[decide_eq_true_eq] at e;omega) f
theorem bP{B:Nat}{w w':World}(h:Below B w w'):Below B w w'.drew:=⟨h.os,h.tape,h.output,h.size,h.block⟩
def aL(P:Ps):Int:=(((List.range 24).map (fun i:Nat=>(i:Int)+1)).find? (fun n=>!(P n).isSome)).getD 0
theorem wN{P:Ps}{k:Int}(h:uD P k)(c:k<=24):aL P=k:=by
 unfold aL;have a:=h.pos;have:((List.range 24).map (fun i:Nat=>(i:Int)+1)).find? (fun n=>!(P n).isSome)=some k:=by
  rw[List.find?_eq_some_iff_getElem];refine⟨by rw[h.no];rfl,(k-1).toNat,by simp;omega,by simp;omega,fun j b=>?_⟩;simp only[List.getElem_map,List.getElem_range];rw[h.all _ (by omega) (by omega)];rfl
 rw[this];rfl
def oq(P:Ps)(pid:Int)(c:Nat):Int:=if lQ P pid c=0 then aL P else 0
def oo(P:Ps)(pid:Int)(c:Nat):Ps:=if lQ P pid c=0 then fP P pid (aL P) else P
section
variable {P:Ps}{pid:Int}
theorem take_add{L:List Int}{i:Nat}(h:i<L.length):L.take (i+1)=L.take i++[L[i]]:=by
 rw[List.take_add_one,List.getElem?_eq_getElem h];rfl
end
end
section
open Go.RowKit Go.Maps Go.Sort Go.Shelf Go.Lib
def mk(f:Int->Bool):Nat->Nat
 |0=>0
 |k+1=>mk f k ||| (if f (k:Int)=true then 2^k else 0)
theorem R3(f:Int->Bool):∀k i,(mk f k).testBit i=(decide (i<k)&&f i)
 |0,i=>by simp[mk]
 |k+1,i=>by
  rw[mk,Nat.testBit_or,R3 f k i];by_cases a:f (k:Int)=true
  ·rw[if_pos a,Nat.testBit_two_pow];by_cases e:k=i
   ·subst e;simp[a]
   ·have:(decide (i<k+1))=decide (i<k):=by congr 1;apply propext;omega
    simp[e,this]
  ·rw[if_neg a,Nat.zero_testBit,Bool.or_false];by_cases e:i=k
   ·subst e;simp[a]
   ·have:(decide (i<k+1))=decide (i<k):=by congr 1;apply propext;omega
    rw[this]
theorem YW(f:Int->Bool):∀k,mk f k<2^k
 |0=>by simp[mk]
 |k+1=>by
  rw[mk];refine Nat.or_lt_two_pow ?_ ?_
  ·exact Nat.lt_of_lt_of_le (YW f k) (Nat.pow_le_pow_right (by omega) (by omega))
  ·split
   ·exact Nat.pow_lt_pow_right (by omega) (by omega)
   ·exact Nat.pow_pos (by omega)
def iU(f:Int->Bool):Nat:=mk f 9
theorem sK(f:Int->Bool):iU f<512:=YW f 9
theorem jZ(f:Int->Bool)(i:Nat):(iU f).testBit i=(decide (i<9)&&f i):=R3 f 9 i
theorem Jw:iU fF=0:=rfl
def su(s:Int):Int->Bool:=fun i=>decide (i=s)
def pU(f g:Int->Bool):Int->Bool:=fun i=>f i && !g i
theorem Xi{s:Nat}(h:s<=8):iU (su s)=2^s:=by
 apply Nat.eq_of_testBit_eq
 intro i;rw[jZ,Nat.testBit_two_pow];unfold su;by_cases e:s=i
 ·subst e;simp;omega
 ·have:¬((i:Int)=(s:Int)):=by omega
  simp[e,this]
theorem aaJ(f:Int->Bool)(s:Int):iU f ||| iU (su s)=iU (bY f s true):=by
 apply Nat.eq_of_testBit_eq
 intro i;rw[Nat.testBit_or,jZ,jZ,jZ];unfold su bY;by_cases e:(i:Int)=s<;>by_cases a:i<9<;>simp[e,a]
theorem TW(f g:Int->Bool):iU f &&& (18446744073709551615-iU g)=iU (pU f g):=by
 apply Nat.eq_of_testBit_eq
 intro i;have b:=sK g;have a:18446744073709551615-iU g=2^64-(iU g+1):=by omega
 rw[Nat.testBit_and,a,Nat.testBit_two_pow_sub_succ (by omega),jZ,jZ,jZ];unfold pU;by_cases e:i<9
 ·have:i<64:=by omega
  simp[e,this]
 ·simp[e]
theorem TV{f:Int->Bool}(h:iU f=0):sigs.find? f=none:=by
 refine Od (fun y c b=>?_);have:=jZ f y.toNat;rw[h,Nat.zero_testBit,show ((y.toNat:Nat):Int)=y by omega] at this;have a:y.toNat<9:=by omega
 simpa[a] using this.symm
theorem O5{f:Int->Bool}(g:∀s,f s=true->1<=s/\s<=8)(h:iU f≠0):sigs.find? f=some ((ctz 64 (iU f):Nat):Int):=by
 obtain⟨m,b,_⟩:=ctzFrom_spec 64 (iU f) (by omega) (by have:=sK f;omega);have e:ctzFrom 64 (iU f)=ctz 64 (iU f):=by
  unfold ctz;first|rfl|(rw[if_neg h])
 rw[e] at b;generalize ctz 64 (iU f)=k at *;have a:(iU f).testBit k=true:=by
  rw[b,Nat.testBit_two_pow_mul];simp
 have d:∀j,j<k->(iU f).testBit j=false:=fun j l=>by
  rw[b,Nat.testBit_two_pow_mul];simp;omega
 rw[jZ] at a;simp only[Bool.and_eq_true,decide_eq_true_eq] at a;have:=g k a.2;refine Oe (x:=(k:Int)) (by omega) (fun y o n=>?_) a.2;have c:=d y.toNat (by omega);rw[jZ,show ((y.toNat:Nat):Int)=y by omega] at c;have i:y.toNat<9:=by omega
 simpa[i] using c
def ni(w:World):Prop:=TabAt 8 Lib.deBruijn64tab w
theorem ni.lt{w:World}(h:ni w):8<w.heap.size:=World.block_lt_of_cell? w _ (h 0 (by decide))
theorem ni.keep{w w':World}(h:ni w)(c:w'.heap[8]? = w.heap[8]?):ni w':=fun j b=>by
 rw[World.cell?_of_block (w:=w) (a:=⟨8,j,none⟩) c];exact h j b
abbrev mv(f:Int->Bool):Value:=.int .u64 ((iU f:Nat):Int)
theorem Em(w:World)(s:Int)(b:1<=s/\s<=8):Calls prog 199 #[.int .i64 s] w fun e a=>e=.returned (mv (su s))/\a=w:=by
 have h:iU (su s)=2^s.toNat:=by
  have:=Xi (s:=s.toNat) (by omega);rw[show ((s.toNat:Nat):Int)=s by omega] at this;exact this
 unfold mv;rw[h];obtain h|h|h|h|h|h|h|h:s=1\/s=2\/s=3\/s=4\/s=5\/s=6\/s=7\/s=8:=by omega
 all_goals
  subst h;go_enter Tryz.func199,Tryz.ntmps199
  go_wp2_with fail
  go_ret;exact⟨by first|rfl|simp,rfl⟩
theorem LG(w:World)(f:Int->Bool)(s:Int)(d:1<=s/\s<=8):Calls prog 232 #[mv f,.int .i64 s] w fun e c=>e=.returned (mv (bY f s true))/\c=w:=by
 have g:=Em w s d;have j:=sK f;have i:=sK (su s);have a:=bits_or_u64_nat (iU f) (iU (su s)) (by omega) (by omega);rw[aaJ] at a;unfold mv at *;generalize iU (bY f s true)=r at *;generalize iU (su s)=o at *;generalize iU f=m at *;go_enter Tryz.func232,Tryz.ntmps232
 go_wp2_with (go_at_call 199;refine g.mono ?_;rintro e b ⟨rfl,h⟩;subst b)
 go_ret;exact⟨by first|rfl|rw[a],rfl⟩
theorem mi(w:World)(f g:Int->Bool):Calls prog 198 #[mv f,mv g] w fun e b=>e=.returned (mv (pU f g))/\b=w:=by
 have d:=sK f;have c:=sK g;have a:=u64_andNot_nat (iU f) (iU g) (by omega) (by omega);rw[TW] at a;unfold mv at *;generalize iU (pU f g)=r at *;generalize iU g=o at *;generalize iU f=m at *;go_enter Tryz.func198,Tryz.ntmps198
 go_wp2_with fail
 go_ret;exact⟨by first|rfl|rw[a],rfl⟩
theorem Pk(w:World)(f:Int->Bool)(i:∀s,f s=true->1<=s/\s<=8)(j:ni w):Calls prog 197 #[mv f] w fun e d=>e=.returned (.int .i64 ((sigs.find? f).getD 0))/\d=w:=by
 have h:=sK f;by_cases a:iU f=0
 ·rw[TV a];unfold mv;rw[a];go_enter Tryz.func197,Tryz.ntmps197
  go_wp2_with fail
  go_ret;exact⟨rfl,rfl⟩
 ·rw[O5 i a];have b:=Any7.bits_TrailingZeros Tryz.tzL (iU f) (by omega) w (fun _=>j);change Calls prog 206 _ _ _ at b;unfold mv;generalize ctz 64 (iU f)=r at *;generalize iU f=m at *;have l:((m:Int)==0)=false:=by simpa using a
  have g:¬(m:Int)=0:=by omega
  go_enter Tryz.func197,Tryz.ntmps197
  go_wp2_with (go_at_call 206;refine b.mono ?_;rintro e c ⟨rfl,k⟩;subst c)
  go_ret;exact⟨rfl,rfl⟩
end
section
open Go.RowKit Go.Maps Go.Sort
def Nh(p:Pr):Int->Bool:=if p.state=1 then p.ig else fF
abbrev qv(p:Pr):Value:=.agg #[.int .i64 p.state,.int .i64 p.parent,.int .i64 p.code,mv p.wt,mv (Nh p)]
abbrev qv0:Value:=.agg #[.int .i64 0,.int .i64 0,.int .i64 0,.int .u64 0,.int .u64 0]
theorem ZU(w:World):(zeroValue 126).run prog w=.ok qv0 w:=by kernel_rfl
theorem VC(a b c d e:Int)(w:World):(Instr.field 126 (.agg #[.int .i64 a,.int .i64 b,.int .i64 c,.int .u64 d,.int .u64 e]) 0).run prog w=.ok (.int .i64 a) w/\(Instr.field 126 (.agg #[.int .i64 a,.int .i64 b,.int .i64 c,.int .u64 d,.int .u64 e]) 1).run prog w=.ok (.int .i64 b) w/\(Instr.field 126 (.agg #[.int .i64 a,.int .i64 b,.int .i64 c,.int .u64 d,.int .u64 e]) 2).run prog w=.ok (.int .i64 c) w/\(Instr.field 126 (.agg #[.int .i64 a,.int .i64 b,.int .i64 c,.int .u64 d,.int .u64 e]) 4).run prog w=.ok (.int .u64 e) w:=by
 refine⟨?_,?_,?_,?_⟩<;>kernel_rfl
structure JD (P:Ps):Prop where
 Bh:∀n p,P n=some p->∀s,p.wt s=true->p.ig s=false
 dead:∀n p,P n=some p->p.state=2->p.wt=fF
structure QM (w:World) (t g:Nat) (P:Ps) (c:Nat):Prop where
 head:w.heap[t]? = some (.cells #[.map (some g)] 129)
 map:aK w g c (fun n=>(P n).map qv)
 key:∀n p,P n=some p->1<=n/\n<=24
structure QJ (w:World) (t g:Nat) (P:Ps) (c:Nat):Prop extends QM w t g P c where
 ok:pX P
 dj:JD P
section
variable {w w':World}{t g c:Nat}{P:Ps}{n m:Int}{p:Pr}
theorem QM.Zi(h:QM w t g P c):t<w.heap.size:=by
 rcases Nat.lt_or_ge t w.heap.size with z|z
 ·exact z
 ·have:=h.head;rw[Array.getElem?_eq_none (by omega)] at this;cases this
theorem QM.gt(h:QM w t g P c):g≠t:=fun e=>by
 obtain⟨b,d,a⟩:=h.map.isMap;rw[e,h.head] at a;cases a
theorem QM.keep(h:QM w t g P c)(b:w'.heap[t]? = w.heap[t]?)(a:w'.heap[g]? = w.heap[g]?):QM w' t g P c:=⟨b.trans h.head,h.map.keep a,h.key⟩
theorem QM.below(h:QM w t g P c)(a:Below w.heap.size w w'):QM w' t g P c:=h.keep (a.block t h.Zi) (a.block g h.map.lt)
theorem QM.c0(h:QM w t g P c):w.cell? ⟨t,0,none⟩=some (.map (some g)):=by rw[cell_of_row _ _ _ _ _ _ h.head];rfl
theorem QM.num(h:QM w t g P c):p9 P c:=h.map.isN.congr (fun x=>by cases P x<;>rfl)
theorem QM.few(h:QM w t g P c):c<=24:=by
 have:=h.num.few (B:=24) (by omega) (fun x a=>by
  obtain⟨p,b⟩:=Option.isSome_iff_exists.1 a;have:=h.key x p b;omega)
 omega
theorem QM.look(h:QM w t g P c)(n:Int)(a:(Lit.int .i64 n).wf=true):(Instr.lookup 127 (.map (some g)) (.int .i64 n) false).run prog w=.ok (match P n with|some p=>qv p|none=>qv0) w:=by
 rw[h.map.look underlying127 (ZU _) n a];cases P n<;>rfl
theorem QM.xu(h:QM w t g P c)(a:P n=some p)(b:(Lit.int .i64 n).wf=true):(Instr.lookup 127 (.map (some g)) (.int .i64 n) false).run prog w=.ok (.agg #[.int .i64 p.state,.int .i64 p.parent,.int .i64 p.code,.int .u64 ((iU p.wt:Nat):Int),.int .u64 ((iU (Nh p):Nat):Int)]) w:=by
 rw[h.look n b,a]
def qF(P:Ps)(n:Int):Int×Int×Int×Nat×Nat:=match P n with|some p=>(p.state,p.parent,p.code,iU p.wt,iU (Nh p)) | none=>(0,0,0,0,0)
theorem acZ:(qF P n).1=nN P n:=by unfold qF;cases h:P n with|none=>rw[lY h] | some p=>rw[kG h]
theorem aac:(qF P n).2.1=xR P n:=by unfold qF;cases h:P n with|none=>rw[OQ h] | some p=>rw[oP h]
theorem QM.adb(h:QM w t g P c)(n:Int)(a:(Lit.int .i64 n).wf=true):(Instr.lookup 127 (.map (some g)) (.int .i64 n) false).run prog w=.ok (.agg #[.int .i64 (qF P n).1,.int .i64 (qF P n).2.1,.int .i64 (qF P n).2.2.1,.int .u64 ((qF P n).2.2.2.1:Nat),.int .u64 ((qF P n).2.2.2.2:Nat)]) w:=by
 rw[h.look n a];unfold qF;cases P n<;>rfl
theorem QM.xw(h:QM w t g P c)(n:Int)(i:(Lit.int .i64 n).wf=true):Calls prog 196 #[wp t,.int .i64 n] w fun e f=>e=.returned (.agg #[.int .i64 (qF P n).1,.int .i64 (qF P n).2.1,.int .i64 (qF P n).2.2.1,.int .u64 ((qF P n).2.2.2.1:Nat),.int .u64 ((qF P n).2.2.2.2:Nat)])/\Below w.heap.size w f:=by
 have a:∀o,Below w.heap.size w (w.alloc o):=fun o=>(Below.refl _ w).alloc (Nat.le_refl _) o;have k:∀o,(Instr.lookup 127 (.map (some g)) (.int .i64 n) false).run prog (w.alloc o)=_:=fun o=>(h.below (a o)).adb n i;have l:∀o,(w.alloc o).cell? ⟨t,0,none⟩=some (.map (some g)):=fun o=>(h.below (a o)).c0;have j:=h.Zi;generalize (qF P n).1=x1 at *;generalize (qF P n).2.1=x2 at *;generalize (qF P n).2.2.1=x3 at *;generalize (qF P n).2.2.2.1=d at *;generalize (qF P n).2.2.2.2=b at *;go_enter Tryz.func196,Tryz.ntmps196
 go_wp2_with fail
 refine bodyPost_ret (v:=.agg #[.int .i64 x1,.int .i64 x2,.int .i64 x3,.int .u64 (d:Int),.int .u64 (b:Int)]) (by simp[results,Tryz.results196,go_sem]) rfl ⟨rfl,?_⟩
 repeat first|exact Below.refl _ _|refine Below.alloc ?_ (by first|omega|(simp<;>omega)) _|refine Below.setCell ?_ (by first|omega|(simp<;>omega)) _
theorem QM.state(h:QM w t g P c)(n:Int)(b:(Lit.int .i64 n).wf=true):Calls prog 147 #[wp t,.int .i64 n] w fun e a=>e=.returned (.int .i64 (nN P n))/\Below w.heap.size w a:=by
 have f:=h.xw n b;rw[<-acZ];have j:=fun W=>(VC (qF P n).1 (qF P n).2.1 (qF P n).2.2.1 ((qF P n).2.2.2.1:Nat) ((qF P n).2.2.2.2:Nat) W).1;generalize (qF P n).1=x1 at *;generalize (qF P n).2.1=x2 at *;generalize (qF P n).2.2.1=x3 at *;generalize (qF P n).2.2.2.1=x4 at *;generalize (qF P n).2.2.2.2=x5 at *;go_enter Tryz.func147,Tryz.ntmps147
 go_wp2_with (go_at_call 196;refine f.mono ?_;rintro e i ⟨rfl,d⟩)
 go_ret;exact⟨rfl,d⟩
theorem QM.parent(h:QM w t g P c)(n:Int)(b:(Lit.int .i64 n).wf=true):Calls prog 281 #[wp t,.int .i64 n] w fun e a=>e=.returned (.int .i64 (xR P n))/\Below w.heap.size w a:=by
 have f:=h.xw n b;rw[<-aac];have j:=fun W=>(VC (qF P n).1 (qF P n).2.1 (qF P n).2.2.1 ((qF P n).2.2.2.1:Nat) ((qF P n).2.2.2.2:Nat) W).2.1;generalize (qF P n).1=x1 at *;generalize (qF P n).2.1=x2 at *;generalize (qF P n).2.2.1=x3 at *;generalize (qF P n).2.2.2.1=x4 at *;generalize (qF P n).2.2.2.2=x5 at *;go_enter Tryz.func281,Tryz.ntmps281
 go_wp2_with (go_at_call 196;refine f.mono ?_;rintro e i ⟨rfl,d⟩)
 go_ret;exact⟨rfl,d⟩
theorem QM.runs(h:QM w t g P c)(n:Int)(k:(Lit.int .i64 n).wf=true):Calls prog 227 #[wp t,.int .i64 n] w fun e i=>e=.returned (aI (if aD P n=true then 0 else 7))/\Below w.heap.size w i:=by
 have d:=h.state n k;cases nO:aD P n with
 |true=>
  have a:nN P n=1:=by unfold aD at nO;simpa using nO
  rw[a] at d;rw[if_pos rfl,aB];go_enter Tryz.func227,Tryz.ntmps227
  go_wp2_with (go_at_call 147;refine d.mono ?_;rintro e f ⟨rfl,b⟩)
  go_ret;exact⟨rfl,b⟩
 |false=>
  have a:nN P n≠1:=by unfold aD at nO;simpa using nO
  rw[if_neg (by simp),ax (by omega)];have j:(nN P n==1)=false:=by simpa using a
  generalize nN P n=s at *;go_enter Tryz.func227,Tryz.ntmps227
  go_wp2_with (go_at_call 147;refine d.mono ?_;rintro e f ⟨rfl,b⟩)
  go_ret;exact⟨rfl,b⟩
theorem QJ.below(h:QJ w t g P c)(a:Below w.heap.size w w'):QJ w' t g P c:=⟨h.toQM.below a,h.ok,h.dj⟩
end
theorem WN{P:Ps}{n:Int}{p:Pr}(a:P n=some p)(f:Pr->Pr):vP P n f=nZ P n (f p):=by
 funext i;unfold vP nZ;by_cases e:i=n
 ·subst e;rw[if_pos rfl,if_pos rfl,a];rfl
 ·rw[if_neg e,if_neg e]
theorem wE{P:Ps}{n i:Int}{p q:Pr}(h:nZ P n p i=some q):(i=n/\q=p)\/(i≠n/\P i=some q):=by
 unfold nZ at h;split at h
 ·rename_i e;exact .inl ⟨e,(Option.some.inj h).symm⟩
 ·rename_i e;exact .inr ⟨e,h⟩
abbrev Vg(g:Nat)(w w':World):Prop:=Wt (fun i=>i=g) w w'
def Fw(w:World)(t g:Nat)(P':Ps)(w':World):Prop:=∃c',QJ w' t g P' c'/\Vg g w w'
section
variable {w w' V:World}{t g c:Nat}{P:Ps}{n m sig pid:Int}{p:Pr}
theorem Vg.ofB(a:Below w.heap.size w w'):Vg g w w':=.below _ a
theorem Fw.same(h:QJ w t g P c)(a:Below w.heap.size w w'):Fw w t g P w':=⟨c,h.below a,.ofB a⟩
theorem QM.put(h:QM w t g P c)(j:Below w.heap.size w V)(n:Int)(l:1<=n/\n<=24)(p:Pr):∃a,(Instr.mapUpdate 127 (.map (some g)) (.int .i64 n) (qv p)).run prog V=.ok () a/\QM a t g (nZ P n p) (if (P n).isSome then c else c+1)/\Vg g w a:=by
 have o:=h.few;have d:=h.below j;obtain⟨a,b,f,k⟩:=d.map.put underlying127 (by unfold maxLen;omega) n (uq (by omega)) (qv p);have m:(fun i=>if i=n then some (qv p) else (P i).map qv)=fun i=>(nZ P n p i).map qv:=by
  funext i;unfold nZ;split<;>rfl
 rw[m,Option.isSome_map] at f;refine⟨a,b,⟨(k.block t d.Zi (fun z=>h.gt (Option.some.inj z).symm)).trans d.head,f,fun i q e=>?_⟩,?_⟩
 ·rcases wE e with⟨rfl,_⟩|⟨_,e⟩
  ·exact l
  ·exact h.key i q e
 ·exact(Wt.below _ j).trans (.grown k rfl)
theorem JD.first:JD gU:=by
 have a:∀n p,gU n=some p->p=⟨0,1,0,fF,fF⟩:=fun n p e=>by
  unfold gU at e;split at e
  ·exact(Option.some.inj e).symm
  ·cases e
 refine⟨fun n p e s z=>?_,fun n p e z=>?_⟩
 ·have:=a n p e;subst this;cases z
 ·have:=a n p e;subst this;rfl
theorem JD.set(h:JD P)(b:∀s,p.wt s=true->p.ig s=false)(a:p.state=2->p.wt=fF):JD (nZ P n p):=by
 refine⟨fun i q e s z=>?_,fun i q e z=>?_⟩
 ·rcases wE e with⟨_,rfl⟩|⟨_,e⟩
  ·exact b s z
  ·exact h.Bh i q e s z
 ·rcases wE e with⟨_,rfl⟩|⟨_,e⟩
  ·exact a z
  ·exact h.dead i q e z
theorem QJ.turn(h:QJ w t g P c)(i:Below w.heap.size w V)(d:P n=some p)(f:Pr->Pr)(ok:pX (vP P n f))(k:∀s,(f p).wt s=true->(f p).ig s=false)(j:(f p).state=2->(f p).wt=fF):∃b,(Instr.mapUpdate 127 (.map (some g)) (.int .i64 n) (qv (f p))).run prog V=.ok () b/\Fw w t g (vP P n f) b:=by
 obtain⟨b,a,e,s5⟩:=h.toQM.put i n (h.key n p d) (f p);rw[WN d] at *;exact⟨b,a,_,⟨e,ok,h.dj.set k j⟩,s5⟩
theorem xI(w:World)(x:Int):Calls prog 231 #[.int .i64 x] w fun e a=>e=.returned (.bool (decide (1<=x)&&decide (x<=8)))/\a=w:=by
 by_cases c:1<=x<;>by_cases b:x<=8
 all_goals
  simp only[c,b,decide_true,decide_false,Bool.and_true,Bool.and_false];go_enter Tryz.func231,Tryz.ntmps231
  go_wp2_with fail
  go_ret;exact⟨rfl,rfl⟩
theorem yt(h:p.state=1):Nh p=p.ig:=if_pos h
theorem Pp(b:∀s,p.wt s=true->p.ig s=false)(a:Int):pU (bY p.wt a true) p.ig=if p.ig a=true then p.wt else bY p.wt a true:=by
 funext i;unfold pU bY;by_cases e:i=a
 ·subst e;cases hi:p.ig i with
  |true=>
   have:p.wt i=false:=by cases hw:p.wt i with|false=>rfl|true=>have:=b i hw;rw[hi] at this;cases this
   simp[this]
  |false=>simp
 ·have c:(p.wt i && !p.ig i)=p.wt i:=by
   cases hw:p.wt i with
   |false=>rfl
   |true=>rw[b i hw];rfl
  rw[if_neg e,c];split<;>simp[e]
theorem QJ.kill(h:QJ w t g P c)(n sig:Int)(F:(Lit.int .i64 n).wf=true):Calls prog 163 #[wp t,.int .i64 n,.int .i64 sig] w fun e w'=>e=.returned (aI (eH P n sig))/\Fw w t g (if eH P n sig=0 then kC P n sig else P) w':=by
 have a:=xI w sig;have q:=h.toQM.runs n F;by_cases o:1<=sig/\sig<=8
 ·rw[decide_eq_true o.1,decide_eq_true o.2] at a;simp only[Bool.and_self] at a;cases nO:aD P n with
  |false=>
   rw[nO,if_neg (by simp),ax (by omega)] at q;have x:eH P n sig=7:=by unfold eH;rw[if_neg (by omega),nO];rfl
   rw[x,if_neg (by omega),ax (by omega)];go_enter func163,ntmps163
   go_wp2_with (first
    |(go_at_call 231;refine a.mono ?_;rintro e w1 ⟨rfl,y⟩;subst w1)
    |(go_at_call 227;refine q.mono ?_;rintro e w1 ⟨rfl,i⟩))
   go_ret;exact⟨rfl,.same h i⟩
  |true=>
   rw[nO,if_pos rfl,aB] at q;have x:eH P n sig=0:=by unfold eH;rw[if_neg (by omega),nO];rfl
   rw[x,if_pos rfl,aB];obtain⟨p,A,f⟩:=dx.1 nO;have hd:=h.dj.Bh n p A;have l:=yt f;have r:=Pp hd sig;have m:=fun W=>LG W p.wt sig o;have j:=fun W=>mi W (bY p.wt sig true) p.ig;rw[r] at j;have b:=fun V v=>@QJ.turn w V t g c P n p h v A (fun p=>if p.ig sig=true then p else { p with wt:=bY p.wt sig true }) (h.ok.kill o) (fun s z=>by
    by_cases d:p.ig sig=true
    ·simp only[if_pos d] at z ⊢;exact hd s z
    ·simp only[if_neg d] at z ⊢;rcases jP z with⟨rfl,_⟩|z
     ·simpa using d
     ·exact hd s z) (fun z=>by
    by_cases d:p.ig sig=true
    ·simp only[if_pos d] at z;omega
    ·simp only[if_neg d] at z;omega)
   have E:qv (if p.ig sig=true then p else { p with wt:=bY p.wt sig true })=.agg #[.int .i64 1,.int .i64 p.parent,.int .i64 p.code,mv (if p.ig sig=true then p.wt else bY p.wt sig true),mv p.ig]:=by
    by_cases d:p.ig sig=true
    ·rw[if_pos d,if_pos d];unfold qv;rw[l,f]
    ·rw[if_neg d,if_neg d];unfold qv Nh;simp only[f,if_true]
   simp only[E] at b;have J:Aside _:=b;have k:=fun V (v:Below w.heap.size w V)=>(h.toQM.below v).xu A F;rw[f,l] at k;have u:=fun V (v:Below w.heap.size w V)=>(h.toQM.below v).c0;have C:Aside _:=k;have G:Aside _:=u;clear b E r l hd k u;generalize (if p.ig sig=true then p.wt else bY p.wt sig true)=I at *;generalize hf1:bY p.wt sig true=f1 at *;clear hf1;go_enter func163,ntmps163
   go_upto_region 6 with (first
    |(go_at_call 231;refine a.mono ?_;rintro e w1 ⟨rfl,y⟩;subst w1)
    |(go_at_call 227;refine q.mono ?_;rintro e w1 ⟨rfl,i⟩))
   have c1:=G.out w1 i;have l1:=C.out w1 i;go_upto_region 7 with fail
   clear c1 l1
   go_region_with (first
    |(go_at_call 232;refine(m _).mono ?_;rintro e w2 ⟨rfl,y⟩;subst w2)
    |(go_at_call 198;refine(j _).mono ?_;rintro e w2 ⟨rfl,y⟩;subst w2))
   all_goals
    have B:Below w.heap.size w (w1.alloc (.cells #[.int .i64 1,.int .i64 p.parent,.int .i64 p.code,.int .u64 ((iU I:Nat):Int),.int .u64 ((iU p.ig:Nat):Int)] 126)):=i.alloc i.size _;obtain⟨w5,D,H⟩:=J.out _ (bP (bP B));have c2:=G.out _ (bP B);clear B m j q a;go_upto_region 8 with fail
    go_region
    all_goals
     go_wp2_with fail
     go_ret;exact⟨rfl,H⟩
 ·have x:eH P n sig=2:=by unfold eH;rw[if_pos o]
  rw[x,if_neg (by omega),ax (by omega)];have i:(decide (1<=sig)&&decide (sig<=8))=false:=by
   rw[Bool.and_eq_false_iff,decide_eq_false_iff_not,decide_eq_false_iff_not];omega
  rw[i] at a;go_enter func163,ntmps163
  go_wp2_with (go_at_call 231;refine a.mono ?_;rintro e w1 ⟨rfl,y⟩;subst w1)
  go_ret;exact⟨rfl,.same h (Below.refl _ _)⟩
end
section
variable {w w' V:World}{t g c:Nat}{P:Ps}{n m sig pid:Int}{p:Pr}
theorem TR(w:World):Calls prog 20 #[] w fun e k=>∃t g,e=.returned (wp t)/\QJ k t g gU 1/\Below w.heap.size w k/\w.heap.size<=t/\w.heap.size<=g:=by
 have p:=@run_makeMap prog;have l:aK (w.alloc (.map #[] 0)) w.heap.size 0 (fun _=>none):=aK.made w;have b:(w.alloc (.map #[] 0)).heap.size=w.heap.size+1:=by show (w.heap.push _).size=_;rw[Array.size_push]
 have d:Below w.heap.size w (w.alloc (.map #[] 0)):=(Below.refl _ w).alloc (Nat.le_refl _) _;obtain⟨a,m,h,c⟩:=l.put underlying127 (by unfold maxLen;omega) 1 (by decide) (.agg #[.int .i64 1,.int .i64 0,.int .i64 0,.int .u64 0,.int .u64 0]);have j:Below w.heap.size w a:=⟨c.os.trans d.os,c.tape.trans d.tape,c.output.trans d.output,Nat.le_trans d.size c.size,fun i q=>(c.block i (by rw[b];omega) (fun e=>by have:=Option.some.inj e;omega)).trans (d.block i q)⟩;have o:w.heap.size+1<=a.heap.size:=by have:=c.size;rw[b] at this;exact this
 have f:QJ (a.alloc (.cells #[.map (some w.heap.size)] 129)) a.heap.size w.heap.size gU 1:=by
  refine⟨⟨?_,?_,pX.first.key⟩,.first,.first⟩
  ·show (a.heap.push _)[a.heap.size]? = _;rw[Array.getElem?_push,if_pos rfl]
  ·have e:(fun i=>if i=(1:Int) then some (Value.agg #[.int .i64 1,.int .i64 0,.int .i64 0,.int .u64 0,.int .u64 0]) else (fun _=>none) i)=fun n=>(gU n).map qv:=by
    funext i;unfold gU;by_cases e:i=1
    ·simp only[e,if_true,Option.map_some];rfl
    ·simp[e]
   rw[<-e];exact h.keep (Below.heap_alloc _ _ _ h.lt)
 have r:Below w.heap.size w (a.alloc (.cells #[.map (some w.heap.size)] 129)):=j.alloc j.size _;clear h l c d j b;go_enter Tryz.func20,Tryz.ntmps20
 go_wp2_with fail
 go_ret;exact⟨a.heap.size,w.heap.size,rfl,f,r,by omega,Nat.le_refl _⟩
theorem aaR(b:∀s,p.wt s=true->p.ig s=false)(a:Int):pU p.wt (bY p.ig a true)=bY p.wt a false:=by
 funext i;unfold pU bY;by_cases e:i=a
 ·simp[e]
 ·rw[if_neg e,if_neg e];cases hw:p.wt i with
  |false=>rfl
  |true=>rw[b i hw];rfl
theorem GD(f:Int->Bool)(a:Int):pU f (su a)=bY f a false:=by
 funext i;unfold pU bY su;by_cases e:i=a<;>simp[e]
theorem XG(b:∀s,p.wt s=true->p.ig s=false)(a:Int):pU p.wt (bY p.ig a false)=p.wt:=by
 funext i;unfold pU bY;cases hw:p.wt i with
 |false=>rfl
 |true=>rw[b i hw];simp
theorem QJ.ignore(h:QJ w t g P c)(n sig:Int)(on:Bool)(M:(Lit.int .i64 n).wf=true):Calls prog 162 #[wp t,.int .i64 n,.int .i64 sig,.bool on] w fun e w'=>e=.returned (aI (bN P n sig))/\Fw w t g (if bN P n sig=0 then fE P n sig on else P) w':=by
 have d:=xI w sig;have o:=h.toQM.runs n M;by_cases x:1<=sig/\sig<=8
 ·rw[decide_eq_true x.1,decide_eq_true x.2] at d;simp only[Bool.and_self] at d;cases nO:aD P n with
  |false=>
   rw[nO,if_neg (by simp),ax (by omega)] at o;have u:bN P n sig=7:=by unfold bN;rw[if_neg (by omega),nO];rfl
   rw[u,if_neg (by omega),ax (by omega)];go_enter func162,ntmps162
   go_wp2_with (first
    |(go_at_call 231;refine d.mono ?_;rintro e w1 ⟨rfl,k⟩;subst w1)
    |(go_at_call 227;refine o.mono ?_;rintro e w1 ⟨rfl,f⟩))
   go_ret;exact⟨rfl,.same h f⟩
  |true=>
   rw[nO,if_pos rfl,aB] at o;by_cases E:sig=8
   ·have u:bN P n sig=6:=by unfold bN;rw[if_neg (by omega),nO,if_pos E];rfl
    rw[u,if_neg (by omega),ax (by omega)];subst E;go_enter func162,ntmps162
    go_wp2_with (first
     |(go_at_call 231;refine d.mono ?_;rintro e w1 ⟨rfl,k⟩;subst w1)
     |(go_at_call 227;refine o.mono ?_;rintro e w1 ⟨rfl,f⟩))
    go_ret;exact⟨rfl,.same h f⟩
   ·have u:bN P n sig=0:=by unfold bN;rw[if_neg (by omega),nO,if_neg E];rfl
    rw[u,if_pos rfl,aB];have N:(sig==8)=false:=by simpa using E
    obtain⟨p,H,l⟩:=dx.1 nO;have hd:=h.dj.Bh n p H;have r:=yt l;have i:=fun V m=>@QJ.turn w V t g c P n p h m H (fun p=>{ p with ig:=bY p.ig sig on,wt:=if on=true then bY p.wt sig false else p.wt }) (h.ok.ignore (by omega) on) (fun s z=>by
     cases on with
     |true=>
      simp only[if_true] at z;rcases jP z with⟨_,z⟩|z
      ·cases z
      ·have hne:s≠sig:=fun e=>by subst e;unfold bY at *;simp at *
       show bY p.ig sig true s=false;unfold bY;rw[if_neg hne];exact hd s z
     |false=>
      simp only[Bool.false_eq_true,if_false] at z;show bY p.ig sig false s=false;unfold bY;split
      ·rfl
      ·exact hd s z) (fun z=>by simp only at z;omega)
    have q:=fun V (m:Below w.heap.size w V)=>(h.toQM.below m).xu H M;rw[l,r] at q;have C:=fun V (m:Below w.heap.size w V)=>(h.toQM.below m).c0;have D:Aside _:=q;have F:Aside _:=C;clear q C;cases on with
    |true=>
     have G:=fun W=>LG W p.ig sig x;have j:=fun W=>mi W p.wt (bY p.ig sig true);rw[aaR hd] at j;have A:qv { p with ig:=bY p.ig sig true,wt:=if true=true then bY p.wt sig false else p.wt }=.agg #[.int .i64 1,.int .i64 p.parent,.int .i64 p.code,mv (bY p.wt sig false),mv (bY p.ig sig true)]:=by
      unfold qv Nh;simp only[l,if_true]
     have L:Aside (∀V,Below w.heap.size w V->∃w5,(Instr.mapUpdate 127 (.map (some g)) (.int .i64 n) (.agg #[.int .i64 1,.int .i64 p.parent,.int .i64 p.code,mv (bY p.wt sig false),mv (bY p.ig sig true)])).run prog V=.ok () w5/\Fw w t g (fE P n sig true) w5):=fun V m=>by
      obtain⟨w5,a,b⟩:=i V m;refine⟨w5,?_,b⟩;rw[<-A];exact a
     clear i A r hd;generalize fE P n sig true=P2 at *;generalize bY p.wt sig false=O at *;generalize bY p.ig sig true=J at *;go_enter func162,ntmps162
     go_upto_region 8 with (first
      |(go_at_call 231;refine d.mono ?_;rintro e w1 ⟨rfl,k⟩;subst w1)
      |(go_at_call 227;refine o.mono ?_;rintro e w1 ⟨rfl,f⟩))
     have c1:=F.out w1 f;have l1:=D.out w1 f;have v:Below w.heap.size w (w1.alloc (.cells #[.int .i64 1,.int .i64 p.parent,.int .i64 p.code,.int .u64 ((iU O:Nat):Int),.int .u64 ((iU J:Nat):Int)] 126)):=f.alloc f.size _;obtain⟨w5,y,I⟩:=L.out _ (bP v);have c2:=F.out _ v;clear v o d;go_upto_region 13 with (first
      |(go_at_call 232;refine(G _).mono ?_;rintro e w2 ⟨rfl,k⟩;subst w2)
      |(go_at_call 198;refine(j _).mono ?_;rintro e w2 ⟨rfl,k⟩;subst w2))
     go_region
     all_goals
      go_wp2_with fail
      go_ret;exact⟨rfl,I⟩
    |false=>
     have B:=fun W=>Em W sig x;have K:=fun W=>mi W p.ig (su sig);rw[GD] at K;have j:=fun W=>mi W p.wt (bY p.ig sig false);rw[XG hd] at j;have A:qv { p with ig:=bY p.ig sig false,wt:=if false=true then bY p.wt sig false else p.wt }=.agg #[.int .i64 1,.int .i64 p.parent,.int .i64 p.code,mv p.wt,mv (bY p.ig sig false)]:=by
      unfold qv Nh;simp only[l,if_true,Bool.false_eq_true,if_false]
     have L:Aside (∀V,Below w.heap.size w V->∃w5,(Instr.mapUpdate 127 (.map (some g)) (.int .i64 n) (.agg #[.int .i64 1,.int .i64 p.parent,.int .i64 p.code,mv (p.wt),mv (bY p.ig sig false)])).run prog V=.ok () w5/\Fw w t g (fE P n sig false) w5):=fun V m=>by
      obtain⟨w5,a,b⟩:=i V m;refine⟨w5,?_,b⟩;rw[<-A];exact a
     clear i A r hd;generalize fE P n sig false=P2 at *;generalize bY p.ig sig false=J at *;generalize su sig=o1 at *;go_enter func162,ntmps162
     go_upto_region 8 with (first
      |(go_at_call 231;refine d.mono ?_;rintro e w1 ⟨rfl,k⟩;subst w1)
      |(go_at_call 227;refine o.mono ?_;rintro e w1 ⟨rfl,f⟩))
     have c1:=F.out w1 f;have l1:=D.out w1 f;have v:Below w.heap.size w (w1.alloc (.cells #[.int .i64 1,.int .i64 p.parent,.int .i64 p.code,.int .u64 ((iU p.wt:Nat):Int),.int .u64 ((iU J:Nat):Int)] 126)):=f.alloc f.size _;obtain⟨w5,y,I⟩:=L.out _ (bP (bP v));have c2:=F.out _ (bP v);clear v o d;go_upto_region 11 with fail
     clear c1 l1
     go_region_with (first
      |(go_at_call 199;refine(B _).mono ?_;rintro e w2 ⟨rfl,k⟩;subst w2)
      |(go_at_call 198;refine(K _).mono ?_;rintro e w2 ⟨rfl,k⟩;subst w2))
     all_goals
      clear K B;go_upto_region 13 with (go_at_call 198;refine(j _).mono ?_;rintro e w2 ⟨rfl,k⟩;subst w2)
      go_region
      all_goals
       go_wp2_with fail
       go_ret;exact⟨rfl,I⟩
 ·have u:bN P n sig=2:=by unfold bN;rw[if_pos x]
  rw[u,if_neg (by omega),ax (by omega)];have f:(decide (1<=sig)&&decide (sig<=8))=false:=by
   rw[Bool.and_eq_false_iff,decide_eq_false_iff_not,decide_eq_false_iff_not];omega
  rw[f] at d;go_enter func162,ntmps162
  go_wp2_with (go_at_call 231;refine d.mono ?_;rintro e w1 ⟨rfl,k⟩;subst w1)
  go_ret;exact⟨rfl,.same h (Below.refl _ _)⟩
end
section
variable {w w' V:World}{t g c:Nat}{P:Ps}{n m sig pid:Int}{p:Pr}
def QB(P:Ps)(n:Int):Int->Bool:=if aD P n=true then Vj P n else fF
theorem LX:aO P n=(sigs.find? (QB P n)).getD 0:=by
 unfold aO QB;cases h:aD P n with
 |false=>simp[fF,sigs]
 |true=>simp
theorem acY(ok:pX P)(b:JD P):(qF P n).2.2.2.1=iU (QB P n):=by
 unfold qF QB;cases h:P n with
 |none=>
  have:aD P n=false:=by unfold aD;rw[lY h];rfl
  rw[this,if_neg (by simp),Jw]
 |some p=>
  cases hr:aD P n with
  |true=>simp only[if_true];unfold Vj;rw[h];rfl
  |false=>
   have a:p.state=2:=by
    unfold aD at hr;rw[kG h] at hr;have:=ok.st n p h;simp only[decide_eq_false_iff_not] at hr;omega
   simp only[Bool.false_eq_true,if_false];rw[b.dead n p h a]
theorem ZW(ok:pX P):∀s,QB P n s=true->1<=s/\s<=8:=fun s z=>by
 unfold QB at z;split at z
 ·unfold Vj at z;cases h:P n with
  |none=>rw[h] at z;cases z
  |some p=>rw[h] at z;exact ok.wt n p h s z
 ·cases z
theorem JV{f:Int->Bool}{x:Int}(h:sigs.find? f=some x):(1<=x/\x<=8)/\f x=true:=by
 have a:=List.mem_of_find?_eq_some h;have b:=List.find?_some h;unfold sigs at a;simp only[List.mem_cons,List.not_mem_nil,or_false] at a;exact⟨by omega,b⟩
theorem QJ.take(h:QJ w t g P c)(I:ni w)(n:Int)(Q:(Lit.int .i64 n).wf=true):Calls prog 128 #[wp t,.int .i64 n] w fun e w'=>e=.returned (.int .i64 (aO P n))/\Fw w t g (dP P n) w':=by
 have r:=h.toQM.xw n Q;have y:=acY (n:=n) h.ok h.dj;have q:=fun W R=>Pk W (QB P n) (ZW h.ok) R;rw[<-LX] at q;have K:=I.lt;have b:∀V,Below w.heap.size w V->ni V:=fun V o=>I.keep (o.block _ K);by_cases i:aO P n=0
 ·have F:dP P n=P:=by unfold dP;rw[if_pos i]
  rw[F,i];rw[i] at q;have D:=fun V (o:Below w.heap.size w V)=>Fw.same h o;rw[y] at r;generalize (qF P n).1=x1 at *;generalize (qF P n).2.1=x2 at *;generalize (qF P n).2.2.1=x3 at *;generalize (qF P n).2.2.2.2=O at *;generalize QB P n=f at *;clear y F i I;go_enter Tryz.func128,Tryz.ntmps128
  go_upto_region 2 with (go_at_call 196;refine r.mono ?_;rintro e w1 ⟨rfl,m⟩)
  have u:=m.alloc m.size (.cells #[.int .i64 x1,.int .i64 x2,.int .i64 x3,.int .u64 ((iU f:Nat):Int),.int .u64 (O:Int)] 126);have d:=q _ (b _ u);clear q b r;go_wp2_with (go_at_call 197;refine d.mono ?_;rintro e w2 ⟨rfl,J⟩;subst w2)
  go_ret;exact⟨rfl,D _ u⟩
 ·have L:aD P n=true:=by
   cases z:aD P n with
   |true=>rfl
   |false=>exact absurd (by unfold aO;rw[if_pos z]) i
  obtain⟨p,H,k⟩:=dx.1 L;have v:QB P n=p.wt:=by unfold QB;rw[if_pos L];unfold Vj;rw[H];rfl
  have A:(1<=aO P n/\aO P n<=8):=by
   have e:=LX (P:=P) (n:=n);cases z:sigs.find? (QB P n) with
   |none=>rw[z] at e;exact absurd e i
   |some x=>rw[z] at e;rw[e];exact(JV z).1
  have hd:=h.dj.Bh n p H;have F:dP P n=vP P n (fun p=>{ p with wt:=bY p.wt (aO P n) false }):=by unfold dP;rw[if_neg i]
  have l:=h.ok.take n;rw[F] at l ⊢;have a:=fun V o=>@QJ.turn w V t g c P n p h o H (fun p=>{ p with wt:=bY p.wt (aO P n) false }) l (fun s z=>by
   rcases jP z with⟨_,z⟩|z
   ·cases z
   ·exact hd s z) (fun z=>by simp only at z;omega)
  have C:=yt k;have N:qv { p with wt:=bY p.wt (aO P n) false }=.agg #[.int .i64 1,.int .i64 p.parent,.int .i64 p.code,mv (bY p.wt (aO P n) false),mv p.ig]:=by
   unfold qv Nh;simp only[k,if_true]
  simp only[N] at a;have hF:qF P n=(1,p.parent,p.code,iU p.wt,iU p.ig):=by unfold qF;rw[H];simp only[k,C]
  rw[hF] at r;rw[v] at q;have B:=fun W=>Em W (aO P n) A;have j:=fun W=>mi W p.wt (su (aO P n));rw[GD] at j;have E:=fun V (o:Below w.heap.size w V)=>(h.toQM.below o).c0;have Y:Aside _:=a;have Z:Aside _:=E;have U:(aO P n==0)=false:=by simpa using i
  simp only at r;clear y F I v hd l a N C hF E A;generalize vP P n (fun p=>{ p with wt:=bY p.wt (aO P n) false })=P2 at *;generalize bY p.wt (aO P n) false=X at *;generalize su (aO P n)=o1 at *;generalize aO P n=S at *;go_enter Tryz.func128,Tryz.ntmps128
  go_upto_region 2 with (go_at_call 196;refine r.mono ?_;rintro e w1 ⟨rfl,m⟩)
  have G:=m.alloc m.size (.cells #[.int .i64 1,.int .i64 p.parent,.int .i64 p.code,.int .u64 ((iU p.wt:Nat):Int),.int .u64 ((iU p.ig:Nat):Int)] 126);have d:=q _ (b _ G);clear q b r;have u:=m.alloc m.size (.cells #[.int .i64 1,.int .i64 p.parent,.int .i64 p.code,.int .u64 ((iU X:Nat):Int),.int .u64 ((iU p.ig:Nat):Int)] 126);obtain⟨w5,M,T⟩:=Y.out _ (bP (bP u));have c2:=Z.out _ (bP u);clear u G;go_upto_region 5 with (go_at_call 197;refine d.mono ?_;rintro e w2 ⟨rfl,J⟩;subst w2)
  go_region_with (first
   |(go_at_call 199;refine(B _).mono ?_;rintro e w2 ⟨rfl,y⟩;subst w2)
   |(go_at_call 198;refine(j _).mono ?_;rintro e w2 ⟨rfl,y⟩;subst w2))
  all_goals
   clear j B d;go_upto_region 6 with fail
   go_region
   all_goals
    go_wp2_with fail
    go_ret;exact⟨rfl,T⟩
end
end
end Go.Proofs.YtippochapiolpaaGreatDoor

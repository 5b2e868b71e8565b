/- What the listed variables give a walk, and a contract that is told the world's shape. -/
import Derived.Test.YtcfhanoekniaaaaGreatDoorTell
import Derived.Shelf.Vars
import Derived.HandedShaped
import Derived.Test.YtcfhanoekniaaaaGreatDoorCards
import Derived.Test.YtcfhanoekniaaaaGreatDoorTie
import Derived.ChangeAt
import Derived.ChangeShapes
import Derived.WideShapes
import Derived.OpenShut
import Derived.ChangeOld
import Derived.Deep.Slices
import Derived.ChangeSame
import Derived.ChangeVars
import Derived.JoinedOf
import Derived.RowKit
import Derived.RowKitTokens
import Derived.LaidLaws
import Derived.LaidHandle
import Derived.Stop.Joined
import Derived.SevenTiedAt
import Derived.Test.YtcfhanoekniaaaaGreatDoorZTalks
import Derived.Test.YtcfhanoekniaaaaGreatDoorZBuilder
import Derived.Lib.ItoaLen
import Derived.Test.YtcfhanoekniaaaaGreatDoorJProg4
import Derived.Deep.LoopGhost
import Derived.Test.YtcfhanoekniaaaaGreatDoorShelfN
import Derived.Deep.DeepCutAuto
import Derived.Deep.CutBlock
import Derived.Deep.RegionHeld3
set_option maxHeartbeats 16000000
set_option maxRecDepth 100000
namespace Go.Proofs.YtcfhanoekniaaaaGreatDoor
open Go.ChangeShapes Go.WideShapes Go.ChangeAt Go.RowKit
theorem ownNone:ownKnob Tryz.prog.godebug=none:=by kernel_rfl
theorem laidOut:laidOutB Tryz.prog=true:=by kernel_rfl
theorem et:Tryz.prog.globalNamed "errors.errorType" = some 0:=by kernel_rfl
theorem oneRow:((List.range 505).filter fun t=>Tryz.prog.rowNamed t [101,114,114,111,114])=[27]:=by kernel_rfl
theorem typesSize:Tryz.prog.types.size=505:=by kernel_rfl
theorem handle_of {W:World}(h:handlesMet Tryz.prog [("errors.errorType",Rows.laid_errors_errorType)] W):W.cell? ⟨0,0,none⟩=some errT:=by
 obtain ⟨name,u,ty,e1,e2,e3,e4,e5⟩:=h _ (List.mem_singleton.2 rfl)
 have en:name=[101,114,114,111,114]:=(Option.some.inj e1).symm
 subst en
 have hu:u=350:=Option.some.inj (Eq.trans (Eq.symm e2) (by kernel_rfl))
 subst hu
 have hm:ty∈(List.range 505).filter fun t=>Tryz.prog.rowNamed t [101,114,114,111,114]:=List.mem_filter.2 ⟨List.mem_range.2 (by rw [←typesSize];exact e3),e4⟩
 rw [oneRow] at hm
 obtain rfl:=List.mem_singleton.1 hm
 have hh:typeHandle Tryz.prog 27=.pointer (some ⟨7,27,none⟩):=by kernel_rfl
 rw [hh] at e5
 simpa using World.var?_cell et e5 0
theorem maxLen_of {W:World}(h:W.ShapedOpen Tryz.prog):∃m,W.cell? ⟨4,0,none⟩=some (.int .i64 m):=
 cell_of_shapedOpen_int (t:=3) (zero:=#[.int .i64 0]) h (of_decide_eq_true (by kernel_rfl)) (by kernel_rfl) rfl (by kernel_rfl) (by kernel_rfl) Tryz.underlying3
def litFlat (d:DataW Unit):Array Value:=match d with
 |.agg l=>(l.flatMap fun x=>match x with
  |.lit (.int k n)=>[Value.int k n]
  |.agg l2=>l2.map fun y=>match y with
   |.lit (.int k n)=>Value.int k n
   |_=>.nilIface
  |_=>[]).toArray
 |_=>#[]
theorem returns_and_shaped {H:Type}{enc:TypeId×Value→H}{a:Assume}{C:Checked}{os:Os}{f:FuncId}{fn:Func}{s:ChangeSpec}{conds:List PathCond}{apart fresh handsOn again:Bool}{X:World→Array Value→Prop}
 (hX:∀(w w':World) (args:Array Value),w.heap=w'.heap→X w args→X w' args)
 (own:ownKnob C.prog.godebug=none) (started:os.Started) (noInit:C.prog.inits.idxOf? f=none) (hfn:C.prog.funcs[f]? = some fn)
 (witness:∃(w:World) (tape:Tape) (i:Input),w.os=os∧(w.forCall tape i).Shaped C.prog∧i.vars=[]∧Input.okWide C.prog (w.forCall tape i) .any w.heap.size f i∧
   ((s.pre enc C.prog fn conds apart (w.forCall tape i).memory i.args∧X (w.forCall tape i).memory i.args)∧sizedMet enc C.prog fn (OpenSpec.ofChange s) apart (w.forCall tape i).memory i.args)∧a.holds C.prog (lone (Frame.enter C.prog f i.args .normal) [] (w.forCall tape i)))
 (contract:∀(W:World) (base:Nat) (args:Array Value) (ds gs:List (DataW H)) (before:List MemPlace),
   (∀(j:Nat) t v,fn.params[j]? = some t→args[j]? = some v→Value.okWide C.prog W .any base t v)→
   DataW.Whole enc C.prog fn.params.toList s.vars apart W args.toList ds gs before→
   X W args→W.ShapedOpen C.prog→
   Calls C.prog f args W fun e W'=>∃v,e=.returned v∧s.post enc C.prog fn apart fresh handsOn again W args v W') :
 ReturnsInHanded a C os f .any (fun w args=>(s.pre enc C.prog fn conds apart w args∧X w args)∧sizedMet enc C.prog fn (OpenSpec.ofChange s) apart w args) (s.post enc C.prog fn apart fresh handsOn again):=by
 refine returnsInHanded_of_calls own started noInit witness ?_
 intro w tape i _ hsh _ hok hpre _
 obtain ⟨_,_,_,fn',hfn',_,_,_,_,hval⟩:=hok
 have e:fn'=fn:=Option.some.inj (hfn'.symm.trans hfn)
 subst e
 obtain ⟨⟨⟨ds,gs,before,hw,hc⟩,hx⟩,hz⟩:=hpre
 have hw':=DataW.Whole.of_heap (w':=w.forCall tape i) (by rfl) hw
 refine (contract (w.forCall tape i) w.heap.size i.args ds gs before hval hw' (hX _ _ _ (by rfl) hx) hsh).mono fun e W' ⟨v,he,hp⟩=>?_
 subst he
 exact ChangeSpec.post_blind hp
def litCells (d:DataW Unit):Array Value:=match d with
 |.agg l=>(l.map fun x=>match x with
  |.lit (.int k n)=>Value.int k n
  |_=>.nilIface).toArray
 |_=>#[]
theorem laidMet_tail {W:World}{x:String×DataW Unit}{r:List (String×DataW Unit)}(h:laidMet Tryz.prog (x :: r) W):laidMet Tryz.prog r W:=by
 obtain ⟨ps,⟨g,t,cs,fuel,p,q,h1,h2,h3,h4,h5,rfl⟩,hn,hk⟩:=h
 exact ⟨q,h5,(List.nodup_append.1 hn).2.1,fun b off hb=>hk b off (List.mem_append_right _ hb)⟩
theorem lits_tab64:(Rows.laid_math_bits_deBruijn64tab:DataW Unit)=.agg (Lib.deBruijn64tab.map fun (n:Nat)=>.lit (.int .u8 (n:Int))):=by kernel_rfl
theorem tab64_head {W:World}{r:List (String×DataW Unit)}{name:String}(bt:Tryz.prog.globalNamed name=some 2) (h:laidMet Tryz.prog ((name,Rows.laid_math_bits_deBruijn64tab) :: r) W):Tab64 W:=by
 obtain ⟨ps,⟨g,t,cs,fuel,p,q,hg,ht,hv,htr,_,_⟩,_,_⟩:=h
 obtain rfl:429=t:=Option.some.inj (Eq.trans (Eq.symm (show (Tryz.prog.globals[2]?).map (·.type)=some 429 by kernel_rfl)) (by rw [←Option.some.inj (bt.symm.trans hg)] at ht;exact ht))
 rw [lits_tab64] at htr
 obtain ⟨xs,m,_,hx,hlen,hxl,hf⟩:=DataW.trod_array Tryz.underlying429 htr
 have hxs:Lib.deBruijn64tab.map (fun (n:Nat)=>(.lit (.int .u8 (n:Int)):DataW Unit))=xs.map (·.1):=by
  have:=congrArg Prod.fst hx
  simpa using this
 intro j hj
 have hj':j<64:=hj
 have hfj:=hf j hj'
 have hjx:j<xs.length:=by omega
 rw [List.getElem?_eq_getElem hjx,show Tryz.prog.cellsOf 5=1 by kernel_rfl,Nat.mul_one] at hfj
 obtain ⟨n0,e0,e1,_⟩:=DataW.trod_int Tryz.underlying5 hfj
 have hn:(n0:Int)=((Lib.deBruijn64tab.getD j 0:Nat):Int):=by
  have h1:(Lib.deBruijn64tab.map (fun (n:Nat)=>(.lit (.int .u8 (n:Int)):DataW Unit)))[j]? = (xs.map (·.1))[j]? := by rw [hxs]
  rw [List.getElem?_map,List.getElem?_map,List.getElem?_eq_getElem hjx,List.getElem?_eq_getElem hj,e1] at h1
  simp only [Option.map_some,Option.some.injEq,DataW.lit.injEq,Lit.int.injEq,true_and] at h1
  rw [←h1,List.getD_eq_getElem?_getD,List.getElem?_eq_getElem hj];rfl
 rw [World.var?_cell bt hv j,←hn]
 have h2:(cs.toList.drop j)[0]? = some (.int .u8 n0):=by
  have:((cs.toList.drop j).take 1)[0]? = some (.int .u8 n0):=by rw [e0];rfl
  rwa [List.getElem?_take_of_lt (by omega)] at this
 rw [List.getElem?_drop,Nat.add_zero,Array.getElem?_toList] at h2
 exact h2
theorem wf_maxQ {n:Int}(h:(Lit.int .i64 n).wf=true):n≤9223372036854775807:=by
 have b:IntKind.max .i64=9223372036854775807:=rfl
 simp only [Lit.wf,b,Bool.and_eq_true,decide_eq_true_eq] at h;omega
theorem open_callsC {H:Type}{enc:TypeId×Value→H}{W:World}{fuel:Nat}{a:Option Addr}{len cap:Nat}{x:DataW H×List MemPlace}
 (h:DataW.trod enc Tryz.prog W 0 (fun _=>true) true fuel 66 [.slice a len cap]=some x):∃q,CScr W a len q∧∀i,i<len→(Lit.int .i64 (q i).c).wf=true:=by
 rcases Go.Deep.open_slice Tryz.underlying66 h with ⟨hcs,_⟩|⟨ad,l,c,m,k,D,Pl,hcs,_,hl,_,hm,_,hx⟩
 ·simp at hcs
  exact ⟨fun _=>⟨0,0,0,0,0,[],[]⟩,.inl hcs.2.1,fun i hi=>rfl⟩
 ·simp at hcs
  obtain ⟨rfl,rfl,rfl⟩:=hcs
  by_cases h0:len=0
  ·exact ⟨fun _=>⟨0,0,0,0,0,[],[]⟩,.inl h0,fun i hi=>rfl⟩
  have hmc:m=cap:=by simpa using hm
  have each:∀i,i<m→∃q:CI,(W.cell? ((ad.add (i*7)).add 0)=some (.int .i64 q.what)∧W.cell? ((ad.add (i*7)).add 1)=some (.int .i64 q.p)∧W.cell? ((ad.add (i*7)).add 2)=some (.int .i64 q.a)∧W.cell? ((ad.add (i*7)).add 3)=some (.int .i64 q.b)∧W.cell? ((ad.add (i*7)).add 4)=some (.int .i64 q.c)∧W.cell? ((ad.add (i*7)).add 5)=some (tx q.s)∧W.cell? ((ad.add (i*7)).add 6)=some (tx q.t))∧q.ok∧(Lit.int .i64 q.c).wf=true:=by
   intro i hi
   obtain ⟨cs',c1,c2⟩:=hx i hi
   rw [show Tryz.prog.cellsOf 71=7 by kernel_rfl] at c1
   obtain ⟨_,hlen,hcell⟩:=World.cells?_some c1
   obtain ⟨xs,n',_,_,_,hxl,hf⟩:=DataW.trod_struct Tryz.underlying71 c2
   match cs',hlen with
   | [v0,v1,v2,v3,v4,v5,v6],_=>
    have g0:=hf 0 _ rfl
    have g1:=hf 1 _ rfl
    have g2:=hf 2 _ rfl
    have g3:=hf 3 _ rfl
    have g4:=hf 4 _ rfl
    have g5:=hf 5 _ rfl
    have g6:=hf 6 _ rfl
    have l7:xs.length=7:=hxl
    match xs,l7 with
    | [y0,y1,y2,y3,y4,y5,y6],_=>
     obtain ⟨n0,e0,_,_⟩:=DataW.trod_int Tryz.underlying3 g0
     obtain ⟨n1,e1,_,hw1⟩:=DataW.trod_int Tryz.underlying3 g1
     obtain ⟨n2,e2,_,hw2⟩:=DataW.trod_int Tryz.underlying3 g2
     obtain ⟨n3,e3,_,hw3⟩:=DataW.trod_int Tryz.underlying3 g3
     obtain ⟨n4,e4,_,hw4⟩:=DataW.trod_int Tryz.underlying3 g4
     obtain ⟨s5,e5,_,_⟩:=DataW.trod_string Tryz.underlying9 g5
     obtain ⟨s6,e6,_,_⟩:=DataW.trod_string Tryz.underlying9 g6
     have z:Tryz.prog.cellsOf 3=1:=by kernel_rfl
     have z':Tryz.prog.cellsOf 9=1:=by kernel_rfl
     simp [z] at e0 e1 e2 e3 e4
     simp [z'] at e5 e6
     subst e0 e1 e2 e3 e4 e5 e6
     exact ⟨⟨n0,n1,n2,n3,n4,s5.data.toList,s6.data.toList⟩,⟨hcell 0 (by omega),hcell 1 (by omega),hcell 2 (by omega),hcell 3 (by omega),hcell 4 (by omega),by have:=hcell 5 (by omega);simpa [tx] using this,by have:=hcell 6 (by omega);simpa [tx] using this⟩,⟨hw1,hw2,wf_maxQ hw3⟩,hw4⟩
  have first:=each 0 (by omega)
  obtain ⟨q0,⟨f0,_⟩,_,_⟩:=first
  obtain ⟨blk,off,spot⟩:=ad
  have hspot:spot=none:=by simpa [Addr.add] using World.cell?_spot f0
  subst hspot
  have hb:blk<W.heap.size:=by simpa [Addr.add] using World.block_lt_of_cell? W _ f0
  have all:∃q:Nat→CI,∀i,i<m→(W.cell? (((⟨blk,off,none⟩:Addr).add (i*7)).add 0)=some (.int .i64 (q i).what)∧W.cell? (((⟨blk,off,none⟩:Addr).add (i*7)).add 1)=some (.int .i64 (q i).p)∧W.cell? (((⟨blk,off,none⟩:Addr).add (i*7)).add 2)=some (.int .i64 (q i).a)∧W.cell? (((⟨blk,off,none⟩:Addr).add (i*7)).add 3)=some (.int .i64 (q i).b)∧W.cell? (((⟨blk,off,none⟩:Addr).add (i*7)).add 4)=some (.int .i64 (q i).c)∧W.cell? (((⟨blk,off,none⟩:Addr).add (i*7)).add 5)=some (tx (q i).s)∧W.cell? (((⟨blk,off,none⟩:Addr).add (i*7)).add 6)=some (tx (q i).t))∧(q i).ok∧(Lit.int .i64 (q i).c).wf=true:=by
   refine ⟨fun i=>if hi:i<m then Classical.choose (each i hi) else ⟨0,0,0,0,0,[],[]⟩,fun i hi=>?_⟩
   simp only [hi,dif_pos]
   exact Classical.choose_spec (each i hi)
  obtain ⟨q,hq⟩:=all
  refine ⟨q,.inr ⟨blk,off,rfl,hb,fun i hi=>?_⟩,fun i hi=>(hq i (by omega)).2.2⟩
  have:=hq i (by omega)
  simp only [Addr.add_lit,Nat.add_zero] at this
  exact ⟨this.1,this.2.1⟩
end Go.Proofs.YtcfhanoekniaaaaGreatDoor
namespace Go.Proofs.YtcfhanoekniaaaaGreatDoor
open Go.RowKit Go.Maps
def ent (P:PM) (D:Nat→Nat→Int) (i:Nat):List UInt8:=Lib.itoa (loadV P D ((i / 8:Nat):Int) ((i % 8:Nat):Int)) ++ [44] ++ Lib.decDigits (useE P ((i / 8:Nat):Int) ((i % 8:Nat):Int) 1).toNat ++ [59]
def bts (P:PM) (D:Nat→Nat→Int) (n:Nat):List UInt8:=(List.range n).flatMap (ent P D)
theorem bts_next (P:PM) (D:Nat→Nat→Int) (n:Nat):bts P D (n+1)=bts P D n ++ ent P D n:=by unfold bts;rw [List.range_succ,List.flatMap_append];simp
def Wd64 (D:Nat→Nat→Int):Prop:=∀f k,-9223372036854775808≤D f k∧D f k≤9223372036854775807
theorem Wd64.load {D:Nat→Nat→Int}(h:Wd64 D) (P:PM) (a k:Int):-9223372036854775808≤loadV P D a k∧loadV P D a k≤9223372036854775807:=by
 unfold loadV wd;split
 ·split
  ·omega
  ·exact h _ _
 ·omega
theorem useE_small (P:PM) (a k u:Int):0≤useE P a k u∧useE P a k u<100:=by
 unfold useE;split
 ·omega
 ·split
  ·split<;>omega
  ·omega
theorem dec_len {i:Nat}(hi:i<100):(Lib.decDigits i).length≤21:=by
 have:=Lib.itoa_length_le (i:Int) (by omega) (by omega)
 have e:Lib.itoa (i:Int)=Lib.decDigits i:=by unfold Lib.itoa;rw [if_neg (by omega)];rfl
 rw [e] at this;exact this
theorem ent_len {D:Nat→Nat→Int}(h:Wd64 D) (P:PM) (i:Nat):(ent P D i).length≤44:=by
 have h1:=h.load P ((i / 8:Nat):Int) ((i % 8:Nat):Int)
 have h2:=Lib.itoa_length_le _ h1.1 h1.2
 have h3:=useE_small P ((i / 8:Nat):Int) ((i % 8:Nat):Int) 1
 have h4:=dec_len (i:=(useE P ((i / 8:Nat):Int) ((i % 8:Nat):Int) 1).toNat) (by omega)
 unfold ent;simp only [List.length_append,List.length_cons,List.length_nil];omega
theorem bts_len {D:Nat→Nat→Int}(h:Wd64 D) (P:PM):∀n,(bts P D n).length≤44*n
 |0=>by simp [bts]
 |n+1=>by rw [bts_next,List.length_append];have:=bts_len h P n;have:=ent_len h P n;omega
def hA (S:KS) (p:Int):Nat:=match S.O p with|some o=>lenP (msJ S o.j) | none=>0
def hB (S:KS) (p:Int):Nat:=match S.O p with|some o=>resP (msJ S o.j) | none=>0
def hC (S:KS) (p:Int):Nat:=match S.O p with|some o=>usedN (tsJ S o.j) | none=>0
def hE (S:KS) (p:Int):Nat:=if (S.O p).isSome then 0 else 7
def hM (S:KS) (p:Int):List UInt8:=match S.O p with|some o=>bts (msJ S o.j) S.W 48|none=>[]
def rowA (S:KS) (p:Int):List UInt8:=[124] ++ Lib.decDigits p.toNat ++ [32] ++ Lib.decDigits (stJ S.P p).toNat ++ [32] ++ Lib.decDigits (hA S p) ++ [32] ++ Lib.decDigits (hB S p) ++ [32] ++ Lib.decDigits (hC S p) ++ [32] ++ Lib.decDigits (hE S p)
def rowT (S:KS) (p:Int):List UInt8:=rowA S p ++ hM S p
def butT (S:KS) (but p:Int):List UInt8:=if p=but then [] else rowT S p
def headT (S:KS) (no nt:Nat) (but:Int):List UInt8:=if 0<but then [] else Lib.decDigits (S.n-used (totM S.Ms) S.n) ++ [32] ++ Lib.decDigits no ++ [32] ++ Lib.decDigits nt
def allTo (S:KS) (no nt:Nat) (but:Int) (j:Nat):List UInt8:=headT S no nt but ++ ((pidsJ S.P).take j).flatMap (butT S but)
def allT (S:KS) (no nt:Nat) (but:Int):List UInt8:=allTo S no nt but (pidsJ S.P).length
theorem allTo_next {S:KS}{no nt:Nat}{but:Int}{j:Nat}(h:j<(pidsJ S.P).length):allTo S no nt but (j+1)=allTo S no nt but j ++ butT S but (pidsJ S.P)[j]:=by
 unfold allTo
 rw [List.take_succ_eq_append_getElem h,List.flatMap_append,List.append_assoc]
 simp
theorem rowT_len {S:KS}(hD:Wd64 S.W) {p:Int}(hp:p.toNat<100) (hs:(stJ S.P p).toNat<100) (ht:∀o,S.O p=some o→usedN (tsJ S o.j)≤8):(rowA S p).length≤132∧(rowT S p).length≤2300:=by
 have h1:=dec_len (i:=p.toNat) hp
 have h2:=dec_len (i:=(stJ S.P p).toNat) hs
 have hA':hA S p<100:=by
  unfold hA;split
  ·rename_i o _;have:=lenP_le (msJ S o.j);omega
  ·omega
 have hB':hB S p<100:=by
  unfold hB;split
  ·rename_i o _;have:=resP_le (msJ S o.j);omega
  ·omega
 have hC':hC S p<100:=by
  unfold hC;split
  ·have:=ht _ (by assumption);omega
  ·omega
 have hE':hE S p<100:=by unfold hE;split<;>omega
 have h3:=dec_len hA'
 have h4:=dec_len hB'
 have h5:=dec_len hC'
 have h6:=dec_len hE'
 have h7:(hM S p).length≤44*48:=by
  unfold hM;split
  ·exact bts_len hD _ 48
  ·simp
 have h8:(rowA S p).length≤132:=by
  unfold rowA;simp only [List.length_append,List.length_cons,List.length_nil];omega
 exact ⟨h8,by unfold rowT;rw [List.length_append];omega⟩
end Go.Proofs.YtcfhanoekniaaaaGreatDoor
namespace Go.Proofs.YtcfhanoekniaaaaGreatDoor
open Go.RowKit Go.Maps Go.Sort
theorem pids_same {P P':Ps}(h:∀n,(P' n).isSome=(P n).isSome):pidsJ P'=pidsJ P:=by
 unfold pidsJ;congr 1;funext n;exact h n
theorem on_same (P:Ps) (n:Int) (f:Pr→Pr):pidsJ (onJ P n f)=pidsJ P:=pids_same (fun i=>onJ_isSome f i)
end Go.Proofs.YtcfhanoekniaaaaGreatDoor
namespace Go.Proofs.YtcfhanoekniaaaaGreatDoor
section
variable {S S':KS}{p a k v:Int}{o:Ow}
theorem le_sumL:∀ {l:List Nat}{x:Nat},x∈l→x≤l.sum
 |y :: l,x,h=>by
  rw [List.sum_cons]
  rcases List.mem_cons.1 h with rfl|h
  ·omega
  ·have:=le_sumL h;omega
theorem tot_split (hl:o.j<S.Ms.length):(fun f=>sh (msJ S o.j) f+othM S o.j f)=totM S.Ms:=by
 funext f
 unfold othM
 have:sh (msJ S o.j) f≤totM S.Ms f:=by
  unfold totM
  refine le_sumL (List.mem_map.2 ⟨msJ S o.j,?_,rfl⟩)
  rw [ms_at hl];exact List.getElem_mem hl
 omega
theorem useE_vals (P:PM) (a k u:Int):useE P a k u=0∨useE P a k u=2∨useE P a k u=7∨useE P a k u=13:=by
 unfold useE
 split
 ·omega
 ·split
  ·split<;>omega
  ·omega
theorem useE_some {P:PM}{a k u:Int}(h:useE P a k u=0):(∃x,P a=some x)∧0≤k∧k<8:=by
 unfold useE at h
 split at h
 ·omega
 ·rename_i x hx
  split at h
  ·rename_i hk;exact ⟨⟨x,hx⟩,hk⟩
  ·omega
theorem useE_one {P:PM}{a k:Int}{x:Int×Int}(hP:P a=some x) (hk:0≤k∧k<8) (u:Int):useE P a k u=0∨useE P a k u=13:=by
 unfold useE
 rw [hP]
 simp only [if_pos hk]
 split<;>omega
theorem StR.word {n:Nat}{P P':PM}{f:Int→Nat}{D D':Nat→Nat→Int}(h:StR n P f D a k v 0 P' D') (hok:∀a,frm P a=-1∨0≤frm P a):(useE P' a k 1=0∨useE P' a k 1=13)∧(useE P' a k 1=0→loadV P' D' a k=v):=by
 rcases h with ⟨h1,h2,_⟩|⟨h1,h2,h3,_,rfl,rfl⟩|⟨_,_,_,h4,_⟩|⟨h1,h2,x,hx,h3,_,rfl,rfl⟩
 ·exact absurd h2.symm h1
 ·obtain ⟨⟨y,hy⟩,hk⟩:=useE_some h1
  refine ⟨useE_one hy hk 1,fun hu=>?_⟩
  unfold loadV wd
  rw [if_pos hu,if_neg h2]
  unfold upd
  rw [if_pos ⟨rfl,rfl⟩]
 ·omega
 ·obtain ⟨⟨y,hy⟩,hk⟩:=useE_some h1
  have hp:putP P a ((pg P a).1,(x:Int)) a=some ((pg P a).1,(x:Int)):=if_pos rfl
  refine ⟨useE_one hp hk 1,fun hu=>?_⟩
  have hf:frm (putP P a ((pg P a).1,(x:Int))) a=(x:Int):=by unfold frm;rw [hp]
  unfold loadV wd
  rw [if_pos hu,hf,if_neg (by omega)]
  unfold upd
  rw [if_pos ⟨by omega,rfl⟩]
theorem StR.full {n:Nat}{P P':PM}{f:Int→Nat}{D D':Nat→Nat→Int}(h:StR n P f D a k v 12 P' D'):useE P a k 2=0∧used (fun x=>sh P x+f x) n=n:=by
 rcases h with ⟨h1,h2,_⟩|⟨_,_,_,h4,_⟩|⟨h1,_,h3,_⟩|⟨_,_,_,_,_,h4,_⟩
 ·have:=useE_vals P a k 2;omega
 ·omega
 ·exact ⟨h1,h3⟩
 ·omega
theorem StR.err {n:Nat}{P P':PM}{f:Int→Nat}{D D':Nat→Nat→Int}{er:Int}(h:StR n P f D a k v er P' D'):er≠10∧(useE P a k 2=0→er=0∨er=12):=by
 rcases h with ⟨h1,h2,_⟩|⟨_,_,_,h4,_⟩|⟨h1,_,h3,h4,_⟩|⟨_,_,_,_,_,h4,_⟩
 ·have:=useE_vals P a k 2
  exact ⟨by omega,fun e=>absurd e h1⟩
 ·exact ⟨by omega,fun _=>.inl h4⟩
 ·exact ⟨by omega,fun _=>.inr h4⟩
 ·exact ⟨by omega,fun _=>.inl h4⟩
structure GoK (S:KS) (p a k v:Int) (went:List Int) (er:Int) (S':KS):Prop where
 who:∀x∈went,x≠1∧(∃ox,S.O x=some ox∧0<resP (msJ S ox.j))∧stJ S'.P x=2
 st:∀x,stJ S.P x=2→stJ S'.P x=2
 nd:went.Nodup
 full:went≠[]→used (totM S.Ms) S.n=S.n
 done:er=0→∃o,S'.O p=some o∧(useE (msJ S' o.j) a k 1=0∨useE (msJ S' o.j) a k 1=13)∧(useE (msJ S' o.j) a k 1=0→loadV (msJ S' o.j) S'.W a k=v)
 self:er=10→∃r,went=r ++ [p]∧stJ S'.P p=2
 nobody:er=12→used (totM S'.Ms) S'.n=S'.n∧stJ S'.P p=1
 use:(∃o,S.O p=some o∧useE (msJ S o.j) a k 2=0)→er=0∨er=10∨er=12
 other:er≠0→er≠10→er≠12→went=[]
theorem stJ_runs {P:Ps}{x:Int}(h:runsJ P x=true):stJ P x=1:=by
 unfold runsJ at h;exact of_decide_eq_true h
theorem st_end (kk:KOk S) {x:Int}{ox:Ow}(hx:S.O x=some ox) (c:Int):stJ (endKS S x ox c).P x=2:=by
 show stJ (exitP S.P x c) x=2
 have hr:runsJ S.P x=true:=by rw [←kk.run x,hx];rfl
 obtain ⟨q,hq,_⟩:=runsJ_iff.1 hr
 rw [exitP_st,if_pos ⟨rfl,by rw [hq];rfl⟩]
theorem st_end2 {x y:Int}{ox:Ow}(c:Int) (h:stJ S.P y=2):stJ (endKS S x ox c).P y=2:=by
 show stJ (exitP S.P x c) y=2
 rw [exitP_st]
 split
 ·rfl
 ·exact h
theorem StoreK.go {went:List Int}{er:Int}(r:StoreK p a k v S went er S') (l:Lie S) (kk:KOk S) (hF:∀x o,S.O x=some o→∀a,frm (msJ S o.j) a=-1∨0≤frm (msJ S o.j) a):GoK S p a k v went er S':=by
 induction r with
 | @done S o er P' D' ho h h12=>
  have hj:=l.lt _ _ ho
  refine ⟨fun x hx=>(by cases hx),fun x hx=>hx,List.nodup_nil,fun h=>absurd rfl h,fun he=>⟨o,ho,?_⟩,fun he=>absurd he h.err.1,fun he=>absurd he h12,fun ⟨o2,ho2,hu⟩=>?_,fun _ _ _=>rfl⟩
  ·rw [ms_space (by rw [l.len];exact hj),if_pos rfl]
   subst he
   exact h.word (hF _ o ho)
  ·rw [ho] at ho2
   obtain rfl:=Option.some.inj ho2
   rcases h.err.2 hu with e|e
   ·exact .inl e
   ·exact .inr (.inr e)
 | @nobody S o ho h hv=>
  have hj:=l.lt _ _ ho
  refine ⟨fun x hx=>(by cases hx),fun x hx=>hx,List.nodup_nil,fun h=>absurd rfl h,fun he=>by omega,fun he=>by omega,fun _=>⟨?_,stJ_runs (by rw [←kk.run p,ho];rfl)⟩,fun _=>.inr (.inr rfl),fun _ _ h=>absurd rfl h⟩
  have:=h.full.2
  rw [tot_split (by rw [l.len];exact hj)] at this
  exact this
 | @self S o ho h hv he=>
  have hj:=l.lt _ _ ho
  have hv2:=vic_cand hv
  rw [he] at hv2
  have hd:=st_end kk ho 108
  refine ⟨fun x hx=>?_,fun x hx=>st_end2 108 hx,by simp,fun _=>?_,fun he=>by omega,fun _=>⟨[],rfl,hd⟩,fun he=>by omega,fun _=>.inr (.inl rfl),fun _ h=>absurd rfl h⟩
  ·rw [List.mem_singleton.1 hx]
   exact ⟨hv2.1,hv2.2,hd⟩
  ·have:=h.full.2
   rw [tot_split (by rw [l.len];exact hj)] at this
   exact this
 | @goes S o x ox went er S' ho h hv he hx h1 hne r ih=>
  have hj:=l.lt _ _ ho
  have hjx:=l.lt _ _ hx
  have hv2:=vic_cand hv
  rw [he] at hv2
  have k1:KOk (endKS S x ox 108):=kk.ends hx hjx l.len (fun p' o' hp' e=>l.inj _ _ _ _ hp' hx e) 108
  have hm:=fun i=>ms_end (S:=S) (p:=x) (o:=ox) (by rw [l.len];exact hjx) 108 i
  have hF1:∀y o',(endKS S x ox 108).O y=some o'→∀a,frm (msJ (endKS S x ox 108) o'.j) a=-1∨0≤frm (msJ (endKS S x ox 108) o'.j) a:=fun y o' hy b=>by
   rw [hm]
   split
   ·exact .inl rfl
   ·exact hF y o' (O_end hy).2 b
  have i:=ih (l.ends 108) k1 hF1
  have hu:∃o,(endKS S x ox 108).O p=some o∧useE (msJ (endKS S x ox 108) o.j) a k 2=0:=by
   refine ⟨o,by rw [O_end_ne (Ne.symm hne)];exact ho,?_⟩
   rw [hm,if_neg (fun e=>hne (l.inj _ _ _ _ hx ho e.symm))]
   exact h.full.1
  refine ⟨fun y hy=>?_,fun y hy=>i.st y (st_end2 108 hy),List.nodup_cons.2 ⟨fun hy=>?_,i.nd⟩,fun _=>?_,i.done,fun e=>?_,i.nobody,fun _=>i.use hu,fun e1 e2 e3=>?_⟩
  ·rcases List.mem_cons.1 hy with rfl|hy
   ·exact ⟨h1,hv2.2,i.st _ (st_end kk hx 108)⟩
   ·obtain ⟨w1,⟨oy,w2,w3⟩,w4⟩:=i.who y hy
    refine ⟨w1,⟨oy,(O_end w2).2,?_⟩,w4⟩
    rw [hm] at w3
    split at w3
    ·rw [show resP noP=0 from resP_none] at w3;omega
    ·exact w3
  ·obtain ⟨_,⟨oy,w2,_⟩,_⟩:=i.who x hy
   rw [O_end_self] at w2
   cases w2
  ·have:=h.full.2
   rw [tot_split (by rw [l.len];exact hj)] at this
   exact this
  ·obtain ⟨r2,e2,e3⟩:=i.self e
   exact ⟨x :: r2,by rw [e2];rfl,e3⟩
  ·have:=i.use hu
   omega
end
structure Vw (S S':KS):Prop where
 n:S'.n=S.n
 ms:totM S'.Ms=totM S.Ms
 e:∀x,(S'.D.E x).isSome=(S.D.E x).isSome
 t:∀x,(S'.D.T x).isSome=(S.D.T x).isSome
 pids:pidsJ S'.P=pidsJ S.P
 st:∀x,stJ S'.P x=stJ S.P x
 o:∀x,(S.O x=none∧S'.O x=none)∨∃o o',S.O x=some o∧S'.O x=some o'∧msJ S' o'.j=msJ S o.j∧usedN (tsJ S' o'.j)=usedN (tsJ S o.j)
 w:S'.W=S.W
section
variable {S S':KS}{p a b c k v:Int}{s t:List UInt8}{o:Ow}{no nt:Nat}
theorem Vw.refl (S:KS):Vw S S:=⟨rfl,rfl,fun _=>rfl,fun _=>rfl,rfl,fun _=>rfl,fun x=>by
 cases h:S.O x with
 |none=>exact .inl ⟨rfl,rfl⟩
 |some o=>exact .inr ⟨o,o,rfl,rfl,rfl,rfl⟩,rfl⟩
theorem Vw.open (h:Vw S S') (hn:IsN S.D.E no):IsN S'.D.E no:=by
 obtain ⟨ks,h1,h2,h3⟩:=hn
 exact ⟨ks,h1,h2,fun x=>by rw [h.e x];exact h3 x⟩
theorem Vw.nodes (h:Vw S S') (hn:IsNum S.D.T nt):IsNum S'.D.T nt:=by
 obtain ⟨ks,h1,h2,h3⟩:=hn
 exact ⟨ks,h1,h2,fun x=>by rw [h.t x];exact h3 x⟩
theorem Vw.row (h:Vw S S') (x:Int):rowT S' x=rowT S x:=by
 unfold rowT rowA hA hB hC hE hM
 rw [h.st x]
 rcases h.o x with ⟨h1,h2⟩|⟨o,o',h1,h2,h3,h4⟩
 ·rw [h1,h2]
 ·rw [h1,h2]
  simp only [h3,h4,h.w,Option.isSome_some]
theorem Vw.all (h:Vw S S') (but:Int):allT S' no nt but=allT S no nt but:=by
 have hb:butT S' but=butT S but:=by
  funext x
  unfold butT
  rw [h.row x]
 unfold allT allTo headT
 rw [h.pids,h.ms,h.n,hb]
theorem Vw.files (hj:o.j<S.Ts.length) {D':DS}{N':Ns}(he:∀x,(D'.E x).isSome=(S.D.E x).isSome) (ht:∀x,(D'.T x).isSome=(S.D.T x).isSome) (hu:usedN N'=usedN (tsJ S o.j)):Vw S (S.files D' o.j N'):=
 ⟨rfl,rfl,he,ht,rfl,fun _=>rfl,fun x=>by
  cases h:S.O x with
  |none=>exact .inl ⟨rfl,h⟩
  |some o1=>exact .inr ⟨o1,o1,rfl,h,rfl,by
   rw [ts_files hj]
   split
   ·rename_i e;rw [hu,e]
   ·rfl⟩,rfl⟩
theorem Vw.procs {P':Ps}(hp:pidsJ P'=pidsJ S.P) (hs:∀x,stJ P' x=stJ S.P x):Vw S (S.procs P'):=
 ⟨rfl,rfl,fun _=>rfl,fun _=>rfl,hp,hs,fun x=>by
  cases h:S.O x with
  |none=>exact .inl ⟨rfl,h⟩
  |some o1=>exact .inr ⟨o1,o1,rfl,h,rfl,rfl⟩,rfl⟩
theorem Vw.own (ho:S.O p=some o) (M':Nat→Int) (a':Int):Vw S (S.own p ⟨o.j,M',a'⟩):=
 ⟨rfl,rfl,fun _=>rfl,fun _=>rfl,rfl,fun _=>rfl,fun x=>by
  by_cases e:x=p
  ·subst e
   exact .inr ⟨o,_,ho,putO_same _ _ _,rfl,rfl⟩
  ·cases h:S.O x with
   |none=>exact .inl ⟨rfl,by show putO S.O p _ x=none;rw [putO_ne e];exact h⟩
   |some o1=>exact .inr ⟨o1,o1,rfl,by show putO S.O p _ x=some o1;rw [putO_ne e];exact h,rfl,rfl⟩,rfl⟩
theorem Vw.trans {S2:KS}(h:Vw S S') (h2:Vw S' S2):Vw S S2:=
 ⟨h2.n.trans h.n,h2.ms.trans h.ms,fun x=>(h2.e x).trans (h.e x),fun x=>(h2.t x).trans (h.t x),h2.pids.trans h.pids,fun x=>(h2.st x).trans (h.st x),fun x=>by
  rcases h.o x with ⟨h3,h4⟩|⟨o,o1,h3,h4,h5,h6⟩
  ·rcases h2.o x with ⟨h7,h8⟩|⟨o2,o3,h7,_⟩
   ·exact .inl ⟨h3,h8⟩
   ·rw [h4] at h7;cases h7
  ·rcases h2.o x with ⟨h7,h8⟩|⟨o2,o3,h7,h8,h9,h10⟩
   ·rw [h4] at h7;cases h7
   ·rw [h4] at h7
    cases h7
    exact .inr ⟨o,o3,h3,h8,h9.trans h5,h10.trans h6⟩,h2.w.trans h.w⟩
theorem read_dom {D:DS}{N:Ns}{x a:Int}:(∀y,((readO D N x a).2.2.E y).isSome=(D.E y).isSome)∧(readO D N x a).2.2.T=D.T:=by
 unfold readO
 split
 ·split
  ·exact ⟨fun _=>rfl,rfl⟩
  ·rename_i e he
   split
   ·exact ⟨fun _=>rfl,rfl⟩
   ·split
    ·refine ⟨fun y=>?_,rfl⟩
     show (if y=_ then some _ else D.E y).isSome=_
     split
     ·rename_i ey;rw [ey,he];rfl
     ·rfl
    ·split
     ·exact ⟨fun _=>rfl,rfl⟩
     ·exact ⟨fun _=>rfl,rfl⟩
 ·exact ⟨fun _=>rfl,rfl⟩
theorem write_dom {D:DS}{N:Ns}{x a:Int}(h:(writeO D N x s a).2.1≠0):(writeO D N x s a).2.2.E=D.E∧(writeO D N x s a).2.2.T=D.T:=by
 unfold writeO at h ⊢
 split
 ·rename_i h1
  rw [if_pos h1] at h
  split
  ·exact ⟨rfl,rfl⟩
  ·rename_i e he
   rw [he] at h
   simp only at h
   split
   ·exact ⟨rfl,rfl⟩
   ·rename_i h2
    rw [if_neg h2] at h
    split
    ·rename_i h3
     rw [if_pos h3] at h
     split
     ·exact ⟨rfl,rfl⟩
     ·rename_i h4
      rw [if_neg h4] at h
      split
      ·exact ⟨rfl,rfl⟩
      ·rename_i h5
       rw [if_neg h5] at h
       exact absurd rfl h
    ·split
     ·exact ⟨rfl,rfl⟩
     ·exact ⟨rfl,rfl⟩
 ·exact ⟨rfl,rfl⟩
theorem on_st {P:Ps}{n:Int}{f:Pr→Pr}(hf:∀q,(f q).state=q.state) (x:Int):stJ (onJ P n f) x=stJ P x:=by
 unfold stJ onJ
 by_cases e:x=n
 ·subst e
  cases h:P x with
  |none=>simp
  |some q=>simp [hf]
 ·simp [e]
theorem kill_vw (S:KS) (n sig:Int):Vw S (S.procs (if killE S.P n sig=0 then killP S.P n sig else S.P)):=by
 split
 ·refine Vw.procs ?_ (fun x=>?_)
  ·unfold killP;exact on_same _ _ _
  ·unfold killP;exact on_st (fun q=>by split<;>rfl) x
 ·exact .refl S
theorem waitO_err {P:Ps}{n:Int}(h:(waitO P n).2.2.1≠0):(waitO P n).2.2.2=P:=by
 unfold waitO at h ⊢
 split
 ·rfl
 ·rename_i h1
  rw [if_neg h1] at h
  split
  ·rename_i x hx
   rw [hx] at h
   exact absurd rfl h
  ·rfl
end
section
variable {w:World}{m:Int}{H:KH}{S S':KS}{q:Nat}{A:Nat→Prop}{p a b c:Int}{s t:List UInt8}{o:Ow}
theorem CallK.refused {W e:Int}(r:CallK S p a b c s t W e S') (hn:KN w m H S q A) (h0:e≠0) (h10:e≠10) (h12:e=12→W<8∨10<W):Vw S S':=by
 have l:=hn.lie
 have h8:=fun j=>hn.1.tlen j
 have n0:0≤S.D.nx:=hn.1.inv.core.giv.n0
 cases r with
 |nobody ho hW=>exact .refl S
 |other hW=>exact absurd rfl h0
 |full hW ho hc=>exact .refl S
 |fork hW ho hc=>exact absurd rfl h0
 |exit ho=>
  unfold exitKE at h0
  unfold exitKS
  by_cases h1:p=1
  ·rw [if_pos h1];exact .refl S
  ·rw [if_neg h1] at h0;exact absurd rfl h0
 |exec ho=>exact absurd rfl h0
 |wait ho=>rw [waitO_err h0];exact .refl S
 |map hW ho=>unfold mapKS;rw [if_neg h0];exact .refl S
 | @unmap o ho=>
  unfold unKS unP
  rw [if_neg h0,space_self (by rw [l.len];exact l.lt _ _ ho)];exact .refl S
 | @store _ o went er S2 hW ho r=>
  have hF:∀x o,S.O x=some o→∀a,frm (msJ S o.j) a=-1∨0≤frm (msJ S o.j) a:=fun x o hx b=>by
   refine hn.1.vmr (l.lt x o hx) (fun E Av gc _ vs=>?_)
   rcases vs.ok.frame b with z|z
   ·exact .inl z
   ·exact .inr z.1
  have g:=r.go l hn.2 hF
  have h12':e≠12:=fun z=>by have:=h12 z;omega
  cases r with
  | @done _ o _ P' D' ho h _=>
   have hj:=l.lt _ _ ho
   rcases h with ⟨h1,h2,rfl,rfl⟩|⟨_,_,_,h4,_⟩|⟨_,_,_,h4,_⟩|⟨_,_,_,_,_,h4,_⟩
   ·rw [space_self (by rw [l.len];exact hj)];exact .refl S
   ·exact absurd h4 h0
   ·exact absurd h4 h12'
   ·exact absurd h4 h0
  |nobody ho h hv=>exact absurd rfl h12'
  |self ho h hv he=>exact absurd rfl h10
  |goes ho h hv he hx h1 hne r=>
   have:=g.use ⟨_,ho,h.full.1⟩
   omega
 | @file _ o n k pr x e S' hW ho hn' hk r=>
  rcases r with ⟨_,_,_,rfl⟩|⟨_,D',N',hF,rfl⟩
  ·exact .refl _
  ·obtain ⟨_,rfl,rfl⟩:=(used_file (h8 o.j) n0 hF).2 h0
   rw [files_self (l.lt _ _ ho)];exact .refl S
 | @pipe o n x y e S' ho hn' r=>
  rcases r with ⟨_,_,_,_,rfl⟩|⟨_,D',N',hF,rfl⟩
  ·exact .refl _
  ·obtain ⟨_,_,rfl,rfl⟩:=(used_pipe (h8 o.j) (fun z hz=>((hn.1.tabs ho).1 z hz).1) n0 hF).2 h0
   rw [files_self (l.lt _ _ ho)];exact .refl S
 | @dup o ho=>
  unfold dupKE at h0
  unfold dupKS
  split
  ·rename_i hf
   rw [if_pos hf] at h0
   obtain ⟨_,h2,h3⟩:=(used_dup (D:=S.D) (h8 o.j) a).2 h0
   rw [h2,h3,files_self (l.lt _ _ ho)];exact .refl S
  ·exact .refl S
 |dup2 ho=>unfold dup2KS;rw [if_neg h0];exact .refl S
 | @close o ho=>
  have hh:¬hasN (tsJ S o.j) a=true:=fun z=>h0 (if_pos z)
  unfold closeKS closeD closeN
  rw [if_neg hh,if_neg hh,files_self (l.lt _ _ ho)];exact .refl S
 | @write o ho=>
  have hd:=write_dom (D:=S.D) (N:=tsJ S o.j) (x:=a) (s:=s) (a:=o.m 2) h0
  have hv:Vw S (S.files (wrO S o a s).2.2 o.j (tsJ S o.j)):=Vw.files (l.lt _ _ ho) (fun x=>by unfold wrO;rw [hd.1]) (fun x=>by unfold wrO;rw [hd.2]) rfl
  unfold writeKS
  split
  ·exact hv.trans (kill_vw (S.files (wrO S o a s).2.2 o.j (tsJ S o.j)) p 5)
  ·exact hv
 | @read o ho=>exact Vw.files (l.lt _ _ ho) read_dom.1 (fun x=>by rw [read_dom.2]) rfl
 |limit ho=>exact Vw.own ho _ _
 |kill ho=>exact kill_vw _ _ _
 |signal ho h1 hs=>exact absurd rfl h0
 |quiet ho hs=>exact absurd rfl h0
 |first ho h1=>exact absurd rfl h0
 |mkdir ho hk r=>
  rcases r with ⟨_,_,rfl⟩|⟨_,h1,_⟩
  ·exact .refl S
  ·exact absurd h1 h0
 |unlink ho=>unfold unlinkN;rw [if_pos h0];exact .refl S
 |rename ho=>unfold renameN;rw [if_pos h0];exact .refl S
 | @protect o ho=>
  unfold proP
  rw [if_neg h0,space_self (by rw [l.len];exact l.lt _ _ ho)];exact .refl S
 | @mark o yes ho=>
  have hh:¬hasN (tsJ S o.j) a=true:=fun z=>h0 (if_pos z)
  unfold markN
  rw [if_neg hh,files_self (l.lt _ _ ho)];exact .refl S
 |adjust ho=>unfold adjKS;rw [if_neg h0];exact .refl S
theorem StR.wd64 {n:Nat}{P P':PM}{f:Int→Nat}{D D':Nat→Nat→Int}{a k v er:Int}(h:StR n P f D a k v er P' D') (hD:Wd64 D) (hv:-9223372036854775808≤v∧v≤9223372036854775807):Wd64 D':=by
 have hu:∀D0:Nat→Nat→Int,Wd64 D0→∀i j,Wd64 (upd D0 i j v):=fun D0 h0 i j x y=>by
  unfold upd
  split
  ·exact hv
  ·exact h0 x y
 rcases h with ⟨_,_,_,rfl⟩|⟨_,_,_,_,_,rfl⟩|⟨_,_,_,_,_,rfl⟩|⟨_,_,x,_,_,_,_,rfl⟩
 ·exact hD
 ·exact hu _ hD _ _
 ·exact hD
 ·refine hu _ (fun i j=>?_) _ _
  unfold row firstW
  split
  ·split
   ·omega
   ·exact hD _ _
  ·exact hD _ _
theorem StoreK.wd64 {S S':KS}{p a:Int}{went:List Int}{er k v:Int}(r:StoreK p a k v S went er S') (hD:Wd64 S.W) (hv:-9223372036854775808≤v∧v≤9223372036854775807):Wd64 S'.W:=by
 induction r with
 |done ho h h12=>exact h.wd64 hD hv
 |nobody ho h hv=>exact hD
 |self ho h hv he=>exact hD
 |goes ho h hv he hx h1 hne r ih=>exact ih hD
theorem CallK.wd64 {S S':KS}{p a b c:Int}{s t:List UInt8}{W e:Int}(r:CallK S p a b c s t W e S') (hD:Wd64 S.W) (hv:-9223372036854775808≤c∧c≤9223372036854775807):Wd64 S'.W:=by
 cases r with
 |nobody ho hW=>exact hD
 |other hW=>exact hD
 |full hW ho hc=>exact hD
 |fork hW ho hc=>exact hD
 |exit ho=>unfold exitKS;split<;>exact hD
 |exec ho=>exact hD
 |wait ho=>exact hD
 |map hW ho=>unfold mapKS;split<;>exact hD
 |unmap ho=>exact hD
 |store hW ho r=>exact r.wd64 hD hv
 |file hW ho hn hk r=>
  rcases r with ⟨_,_,_,rfl⟩|⟨_,_,_,_,rfl⟩<;>exact hD
 |pipe ho hn r=>
  rcases r with ⟨_,_,_,_,rfl⟩|⟨_,_,_,_,rfl⟩<;>exact hD
 |dup ho=>unfold dupKS;split<;>exact hD
 |dup2 ho=>unfold dup2KS;split<;>exact hD
 |close ho=>exact hD
 |write ho=>unfold writeKS;split<;>exact hD
 |read ho=>exact hD
 |limit ho=>exact hD
 |kill ho=>exact hD
 |signal ho h1 hs=>exact hD
 |quiet ho hs=>exact hD
 |first ho h1=>exact hD
 |mkdir ho hk r=>exact hD
 |unlink ho=>exact hD
 |rename ho=>exact hD
 |protect ho=>exact hD
 |mark yes ho=>exact hD
 |adjust ho=>unfold adjKS;split<;>exact hD
end
section
variable {S S':KS}{p a b c k v:Int}{s t:List UInt8}{o:Ow}
theorem StoreK.n {went:List Int}{er:Int}(r:StoreK p a k v S went er S'):S'.n=S.n:=by
 induction r with
 |done ho h h12=>rfl
 |nobody ho h hv=>rfl
 |self ho h hv he=>rfl
 |goes ho h hv he hx h1 hne r ih=>exact ih
theorem CallK.n {W e:Int}(r:CallK S p a b c s t W e S'):S'.n=S.n:=by
 cases r with
 |nobody ho hW=>rfl
 |other hW=>rfl
 |full hW ho hc=>rfl
 |fork hW ho hc=>rfl
 |exit ho=>unfold exitKS;split<;>rfl
 |exec ho=>rfl
 |wait ho=>rfl
 |map hW ho=>unfold mapKS;split<;>rfl
 |unmap ho=>rfl
 |store hW ho r=>exact r.n
 |file hW ho hn hk r=>
  rcases r with ⟨_,_,_,rfl⟩|⟨_,_,_,_,rfl⟩<;>rfl
 |pipe ho hn r=>
  rcases r with ⟨_,_,_,_,rfl⟩|⟨_,_,_,_,rfl⟩<;>rfl
 |dup ho=>unfold dupKS;split<;>rfl
 |dup2 ho=>unfold dup2KS;split<;>rfl
 |close ho=>rfl
 |write ho=>unfold writeKS;split<;>rfl
 |read ho=>rfl
 |limit ho=>rfl
 |kill ho=>rfl
 |signal ho h1 hs=>rfl
 |quiet ho hs=>rfl
 |first ho h1=>rfl
 |mkdir ho hk r=>rfl
 |unlink ho=>rfl
 |rename ho=>rfl
 |protect ho=>rfl
 |mark yes ho=>rfl
 |adjust ho=>unfold adjKS;split<;>rfl
end
end Go.Proofs.YtcfhanoekniaaaaGreatDoor
namespace Go.Proofs.YtcfhanoekniaaaaGreatDoor
open Go.RowKit Go.Maps
section
variable {w0 w w':World}{m:Int}{kb q:Nat}{C:Kcs}{S:KS}{p:Int}{o:Ow}
def memT (S:KS) (o:Ow):List UInt8:=bts (msJ S o.j) S.W 48
theorem KC.memory (h:KC w0 w m kb C S q) (ho:S.O p=some o) (hD:Wd64 S.W) (hp:Pow w) :
 Calls Tryz.prog 106 #[wp kb,.int .i64 p] w fun e w'=>e=.returned (.string ⟨(memT S o).toArray⟩)∧Below w.heap.size w w':=by
 have hgl:0<w.heap.size:=World.block_lt_of_cell? w _ h.er
 have hg:=h.er
 have hgw:∀w',Below w.heap.size w w'→w'.cell? ⟨0,0,none⟩=some errT:=fun w' h=>by rw [h.cell (p:=⟨0,0,none⟩) hgl];exact hg
 have hLd:=fun wx (hbx:Below w.heap.size w wx) (a k:Int) ha=>(h.below hbx).load ho a k ha
 unfold memT
 generalize msJ S o.j=P at *
 generalize S.W=D at *
 have hI0:=Lib.fresh_isBuilder 302 5 w
 have hB0:Below w.heap.size w (w.alloc (.cells #[.pointer none,.slice none 0 0] 302)):=(Below.refl _ w).alloc (Nat.le_refl _) _
 clear h ho hg
 go_enter Tryz.func106,Tryz.ntmps106
 go_wp2_with fail
 go_loopg [6,7,8,9] 6 (fun mm s6 _ _ _ wr=>∃a:Nat,a+mm=6∧s6=.int .i64 (a:Int)∧Lib.IsBuilder 302 5 w.heap.size w.heap.size (Lib.byteCells (bts P D (a*8))) wr∧Below w.heap.size w wr)
 case atStart=>exact ⟨0,by omega,rfl,hI0,hB0⟩
 case round=>
  clear hI0 hB0
  obtain ⟨a,ha,rfl,hI,hB⟩:=hrel
  by_cases hlt:(a:Int)<6
  ·obtain ⟨G,hG⟩:∃G,gk=G:=⟨_,rfl⟩
   rw [hG] at ha
   go_wp2_with fail
   go_loopg [7,8,9] 8 (fun mm s7 _ _ wi=>∃k:Nat,k+mm=8∧s7=.int .i64 (k:Int)∧Lib.IsBuilder 302 5 w.heap.size w.heap.size (Lib.byteCells (bts P D (a*8+k))) wi∧Below w.heap.size w wi)
   case atStart=>exact ⟨0,by omega,rfl,hI,hB⟩
   case round=>
    clear hI hB
    obtain ⟨k,hk,rfl,hI,hB⟩:=hrel
    by_cases hlk:(k:Int)<8
    ·have hld:=hLd _ hB (a:Int) (k:Int) (wf64 (by omega))
     have hb1:=hD.load P (a:Int) (k:Int)
     have hb2:=useE_small P (a:Int) (k:Int) 1
     have hnx:=bts_next P D (a*8+k)
     have hen:ent P D (a*8+k)=Lib.itoa (loadV P D (a:Int) (k:Int)) ++ [44] ++ Lib.decDigits (useE P (a:Int) (k:Int) 1).toNat ++ [59]:=by
      unfold ent;rw [show (a*8+k) / 8=a by omega,show (a*8+k) % 8=k by omega]
     have hbl:=bts_len hD P (a*8+k)
     have hel:=ent_len hD P (a*8+k)
     rw [hen] at hnx hel
     obtain ⟨er,her⟩:∃er:Nat,useE P (a:Int) (k:Int) 1=(er:Int):=⟨(useE P (a:Int) (k:Int) 1).toNat,by omega⟩
     rw [her] at hld hb2 hnx hel
     rw [Int.toNat_natCast] at hnx hel
     generalize loadV P D (a:Int) (k:Int)=V at *
     generalize hbs:bts P D (a*8+k)=bs at *
     have hF:=fun wx (hbx:Below w.heap.size w wx)=>format_any V hb1.1 hb1.2 wx (hp.below hbx)
     have hT:=fun wx (hbx:Below w.heap.size w wx)=>tell_err (er:Int) wx (hgw wx hbx)
     have hIt:=itoa_small er (by omega)
     have hstr:((⟨(Lib.itoa V).toArray⟩:ByteArray) ++ ⟨#[44]⟩ ++ ⟨(Lib.decDigits er).toArray⟩ ++ ⟨#[59]⟩:ByteArray)=⟨(Lib.itoa V ++ [44] ++ Lib.decDigits er ++ [59]).toArray⟩:=by
      apply ByteArray.ext;simp
     have hl1:=Lib.itoa_length_le V hb1.1 hb1.2
     have hl2:=dec_len (i:=er) (by omega)
     generalize (Lib.itoa V ++ [44] ++ Lib.decDigits er ++ [59])=S9 at *
     have hlenS:bs.length+S9.length≤1000000:=by omega
     generalize Lib.itoa V=S1 at *
     generalize Lib.decDigits er=S2 at *
     have hc1:¬9223372036854775807<S1.length+1:=by omega
     have hc2:¬9223372036854775807<S1.length+1+S2.length:=by omega
     have hc3:¬9223372036854775807<S1.length+1+S2.length+1:=by omega
     clear hD hel hbl hb1 hen her hLd
     go_wp2_with fail
     refine hld.mono ?_
     rintro e w1 ⟨rfl,b1⟩
     have hI1:=isBuilder_below hI b1
     have hB1:=hB.trans (b1.mono hB.size)
     go_wp2_with fail
     refine (hF _ hB1).mono ?_
     rintro e w2 ⟨rfl,b2⟩
     have hI2:=isBuilder_below hI1 b2
     have hB2:=hB1.trans (b2.mono hB1.size)
     go_wp2_with fail
     refine (hT _ hB2).mono ?_
     rintro e w3 ⟨rfl,b3⟩
     have hI3:=isBuilder_below hI2 b3
     have hB3:=hB2.trans (b3.mono hB2.size)
     go_wp2_with fail
     refine (hIt _).mono ?_
     rintro e w4 ⟨rfl,h4⟩
     subst w4
     go_wp2_with fail
     refine (write_list _ _ bs S9 w3 hI3 hlenS hB3.size).mono ?_
     rintro e w5 ⟨u,rfl,hI5,b5⟩
     go_wp2_with fail
     go_roundg (8-(k+1))
     case measure=>omega
     case rel=>exact ⟨k+1,by omega,by go_num,by rw [show a*8+(k+1)=a*8+k+1 by omega,hnx];exact hI5,hB3.trans b5⟩
    ·have hk8:k=8:=by omega
     subst hk8
     go_wp2_with fail
     go_roundg (6-(a+1))
     case measure=>omega
     case rel=>exact ⟨a+1,by omega,by go_num,by rw [show (a+1)*8=a*8+8 by omega];exact hI,hB⟩
  ·have ha12:a=6:=by omega
   subst ha12
   have hne:bts P D (6*8)≠[]:=by
    rw [show 6*8=47+1 from rfl,bts_next];simp [ent]
   have hTx:=text_any w.heap.size w.heap.size (bts P D (6*8)) wr hI hne
   clear hD hLd hgw hp
   go_wp2_with fail
   refine hTx.mono ?_
   rintro e w1 ⟨rfl,b1⟩
   go_wp2_with fail
   go_ret
   exact ⟨rfl,hB.trans b1⟩
end
theorem cat_t (a b:List UInt8):((⟨a.toArray⟩:ByteArray) ++ ⟨b.toArray⟩)=⟨(a ++ b).toArray⟩:=by apply ByteArray.ext;simp
theorem cat_b (a:List UInt8):((⟨a.toArray⟩:ByteArray) ++ ⟨#[32]⟩)=⟨(a ++ [32]).toArray⟩:=by apply ByteArray.ext;simp
theorem cat_p (b:List UInt8):((⟨#[124]⟩:ByteArray) ++ ⟨b.toArray⟩)=⟨([124] ++ b).toArray⟩:=by apply ByteArray.ext;simp
section
variable {w0 w w':World}{m:Int}{kb q:Nat}{C:Kcs}{S:KS}{p:Int}{o:Ow}
theorem Below.ofsame {V w w':World}{n:Nat}(h:Below n V w') (e:V.heap=w.heap) (e1:V.os=w.os) (e2:V.tape=w.tape) (e3:V.output=w.output):Below n w w':=
 ⟨h.os.trans e1,h.tape.trans e2,h.output.trans e3,by rw [←e];exact h.size,fun i hi=>by rw [←e];exact h.block i hi⟩
theorem Below.next {V w w' v0:World}(h:Below V.heap.size V w') (h0:Below v0.heap.size v0 w) (e:V.heap=w.heap) (e1:V.os=w.os) (e2:V.tape=w.tape) (e3:V.output=w.output):Below v0.heap.size v0 w':=
 h0.trans ((Below.ofsame h e e1 e2 e3).mono (by rw [e];exact h0.size))
theorem KC.used8 (h:KC w0 w m kb C S q) (o:Ow):usedN (tsJ S o.j)≤8:=by
 obtain ⟨H,A,e,k,_⟩:=h
 exact usedN_le8 (k.1.tlen o.j)
theorem KC.pid24 (h:KC w0 w m kb C S q) (hp:p∈pidsJ S.P):1≤p∧p≤24∧(stJ S.P p=1∨stJ S.P p=2):=by
 obtain ⟨H,A,e,k,_⟩:=h
 obtain ⟨G,g,_⟩:=k.1
 obtain ⟨c,qj⟩:=g.qj
 obtain ⟨r,hr⟩:=Option.isSome_iff_exists.1 (qj.ok.pids.1 hp)
 have h1:=qj.key p r hr
 have h2:=qj.ok.st p r hr
 rw [stJ_some hr]
 exact ⟨h1.1,h1.2,h2⟩
structure AllL (S:KS) (no nt:Nat) (but:Int) (L:List Int):Prop where
 pids:pidsJ S.P=L
 row:∀p∈L,(rowA S p).length≤132∧(rowT S p).length≤2300
 head:(headT S no nt but).length≤70
theorem AllL.len {no nt:Nat}{but:Int}{L:List Int}(h:AllL S no nt but L):∀j,j≤L.length→(allTo S no nt but j).length≤70+2300*j
 |0,_=>by
  unfold allTo
  rw [List.take_zero,List.flatMap_nil,List.append_nil]
  exact h.head
 |j+1,hj=>by
  have hjL:j<(pidsJ S.P).length:=by rw [h.pids];omega
  rw [allTo_next hjL,List.length_append]
  have h1:=h.len j (by omega)
  have h2:(butT S but (pidsJ S.P)[j]).length≤2300:=by
   unfold butT
   split
   ·simp
   ·exact (h.row _ (by rw [←h.pids];exact List.getElem_mem hjL)).2
  omega
theorem itoa_dec (i:Nat):Lib.itoa (i:Int)=Lib.decDigits i:=by unfold Lib.itoa;rw [if_neg (by omega)];rfl
theorem dec_any {i:Nat}(hi:i<1000):(Lib.decDigits i).length≤21:=by
 have:=Lib.itoa_length_le (i:Int) (by omega) (by omega)
 rw [itoa_dec] at this;exact this
theorem itoa_any (i:Nat) (hi:i<1000) (w:World) (h:Pow w):Calls Tryz.prog 105 #[.int .i64 (i:Int)] w fun e w'=>e=.returned (.string ⟨(Lib.decDigits i).toArray⟩)∧Below w.heap.size w w':=by
 refine (Any.strconv_Itoa Tryz.itoaML (i:Int) (by omega) (by omega) w h).mono ?_
 rintro e w' ⟨rfl,k,os,rfl⟩
 rw [itoa_dec]
 exact ⟨rfl,below_grow w k os⟩
theorem KC.all (h:KC w0 w m kb C S q) (hD:Wd64 S.W) (hp:Pow w) {no nt:Nat}(hno:IsN S.D.E no) (hnt:IsNum S.D.T nt) (but:Int) (hn:S.n<100) (ho1:no<1000) (ht1:nt<1000) :
 Calls Tryz.prog 32 #[wp kb,.int .i64 but] w fun e w'=>e=.returned (tx (allT S no nt but))∧Below w.heap.size w w':=by
 have hLe:=h.left
 have hOp:=h.opens hno
 have hNo:=fun W (b:Below w.heap.size w W)=>(h.below b).nodes hnt
 have hL24:=h.len24
 have hI1:=fun W=>itoa_small (S.n-used (totM S.Ms) S.n) (by omega) W
 have hI2:=itoa_any no ho1 w hp
 have hI3:=fun W (b:Below w.heap.size w W)=>itoa_any nt ht1 W (hp.below b)
 have l1:=dec_len (i:=S.n-used (totM S.Ms) S.n) (by omega)
 have l2:=dec_any ho1
 have l3:=dec_any ht1
 have HA0:AllL S no nt but (pidsJ S.P):=by
  refine ⟨rfl,fun p hp=>?_,?_⟩
  ·obtain ⟨z1,z2,z3⟩:=h.pid24 hp
   exact rowT_len hD (by omega) (by omega) (fun o _=>h.used8 o)
  ·unfold headT
   split
   ·simp
   ·simp only [List.length_append,List.length_cons,List.length_nil];omega
 have HA:Aside (AllL S no nt but (pidsJ S.P)):=HA0
 have HH:Aside (headT S no nt but=if 0<but then [] else Lib.decDigits (S.n-used (totM S.Ms) S.n) ++ [32] ++ Lib.decDigits no ++ [32] ++ Lib.decDigits nt):=rfl
 have HZ:Aside (allTo S no nt but 0=headT S no nt but):=by
  show allTo S no nt but 0=headT S no nt but
  unfold allTo;rw [List.take_zero,List.flatMap_nil,List.append_nil]
 generalize S.n-used (totM S.Ms) S.n=lf at *
 have hst:((⟨(Lib.decDigits lf).toArray⟩:ByteArray) ++ ⟨#[32]⟩ ++ ⟨(Lib.decDigits no).toArray⟩ ++ ⟨#[32]⟩ ++ ⟨(Lib.decDigits nt).toArray⟩:ByteArray)=⟨(Lib.decDigits lf ++ [32] ++ Lib.decDigits no ++ [32] ++ Lib.decDigits nt).toArray⟩:=by
  apply ByteArray.ext;simp
 generalize hTT:(Lib.decDigits lf ++ [32] ++ Lib.decDigits no ++ [32] ++ Lib.decDigits nt)=TT at *
 clear hTT
 generalize Lib.decDigits lf=T1 at *
 generalize Lib.decDigits no=T2 at *
 generalize Lib.decDigits nt=T3 at *
 have hc1:¬9223372036854775807<T1.length+1:=by omega
 have hc2:¬9223372036854775807<T1.length+1+T2.length:=by omega
 have hc3:¬9223372036854775807<T1.length+1+T2.length+1:=by omega
 have hc4:¬9223372036854775807<T1.length+1+T2.length+1+T3.length:=by omega
 clear HA0 hno hnt hn ho1 ht1
 go_enter Tryz.func32,Tryz.ntmps32
 go_upto_if 26 with (first
  |(go_at_call 39;refine hLe.mono ?_;rintro e w1 ⟨rfl,hw1⟩;subst w1)
  |(go_at_call 21;refine hOp.mono ?_;rintro e w1 ⟨rfl,hw1⟩;subst w1)
  |(go_at_call 102;refine (hNo _ b1).mono ?_;rintro e w2 ⟨rfl,hw2⟩;subst w2)
  |(go_at_call 105;refine (hI1 _).mono ?_;rintro e w1 ⟨rfl,hw1⟩;subst w1)
  |(go_at_call 105;refine hI2.mono ?_;rintro e w1 ⟨rfl,b1⟩)
  |(go_at_call 105;refine (hI3 _ b1).mono ?_;rintro e w3 ⟨rfl,b3⟩))
 clear hLe hOp hNo hI1 hI2 hI3 hc1 hc2 hc3 hc4 l1 l2 l3
 have b13:=b1.trans (b3.mono b1.size)
 clear b1 b3
 go_cut [5] (fun s5 wc=>s5=tx (headT S no nt but)∧Below w.heap.size w wc)
 case first=>
  by_cases hb:0<but
  ·have e1:headT S no nt but=[]:=by rw [HH.out,if_pos hb]
   have hd:decide (0<but)=true:=decide_eq_true hb
   go_wp2_with fail
   go_meet
   case rel=>exact ⟨by first|(rw [e1];done) | (rw [e1];rfl),b13⟩
  ·have e1:headT S no nt but=TT:=by rw [HH.out,if_neg hb]
   go_wp2_with fail
   go_meet
   case rel=>exact ⟨by first|(rw [e1];done) | (rw [e1];rfl),b13⟩
 case rest=>
  obtain ⟨rfl,hw⟩:=hcut
  have h:=h.below hw
  have hp:=hp.below hw
  have hPi:=h.pids
  clear hst HH
  go_upto_region 5 with (go_at_call 34;refine hPi.mono ?_;rintro e w6 ⟨bp,cp,rfl,hcp,k6,b6⟩)
  have HM:Aside (∀j (hj:j<(pidsJ S.P).length),(bp,j,Value.int .i64 (pidsJ S.P)[j])∈icells bp (pidsJ S.P) ++ C):=fun j hj=>List.mem_append_left _ (icells_mem hj)
  have HPd:Aside (∀j (hj:j<(pidsJ S.P).length),1≤(pidsJ S.P)[j]∧(pidsJ S.P)[j]≤24∧(stJ S.P (pidsJ S.P)[j]=1∨stJ S.P (pidsJ S.P)[j]=2)):=fun j hj=>k6.pid24 (List.getElem_mem hj)
  have HNx:Aside (∀j (hj:j<(pidsJ S.P).length),allTo S no nt but (j+1)=allTo S no nt but j ++ butT S but (pidsJ S.P)[j]):=fun j hj=>allTo_next hj
  have HU8:Aside (∀o:Ow,usedN (tsJ S o.j)≤8):=fun o=>h.used8 o
  have HEnd:Aside (allTo S no nt but (pidsJ S.P).length=allT S no nt but):=rfl
  generalize hC9:icells bp (pidsJ S.P) ++ C=C9 at *
  clear hC9 hPi h
  generalize pidsJ S.P=L at *
  have hh:headT S no nt but=allTo S no nt but 0:=HZ.out.symm
  rw [hh]
  clear hh HZ
  go_wp2_with fail
  go_loopg [5,7,8,9,10,11] L.length (fun g s5 s7 _ _ _ _ wx=>∃j:Nat,Aside (j+g=L.length)∧s7=.int .i64 (j:Int)∧s5=tx (allTo S no nt but j)∧KC w0 wx m kb C9 S q∧Below wc.heap.size wc wx)
  case atStart=>exact ⟨0,(show 0+L.length=L.length by omega),rfl,rfl,k6,b6⟩
  case round=>
   clear k6 b6
   obtain ⟨j,HJ,rfl,rfl,k6,b6⟩:=hrel
   by_cases hjl:(j:Int)<(L.length:Int)
   ·have hjL:j<L.length:=by omega
    have y0:=k6.at (HM.out j hjL)
    have hmem:=HM.out j hjL
    have hpd:=HPd.out j hjL
    have hrow:=(HA.out.row L[j] (List.getElem_mem hjL))
    have hln:=HA.out.len j (by omega)
    have HNj:Aside (allTo S no nt but (j+1)=allTo S no nt but j ++ butT S but L[j]):=HNx.out j hjL
    have hcj:(j:Int)<(cp:Int):=by omega
    generalize L[j]=p9 at *
    obtain ⟨pn,rfl⟩:∃pn:Nat,p9=(pn:Int):=⟨p9.toNat,by omega⟩
    by_cases hbt:(pn:Int)=but
    ·subst hbt
     have e1:allTo S no nt (pn:Int) (j+1)=allTo S no nt (pn:Int) j:=by
      rw [HNj.out];unfold butT;rw [if_pos rfl,List.append_nil]
     generalize allTo S no nt (pn:Int) j=Z0 at *
     go_wp2_with fail
     go_roundg (gk-1)
     case measure=>have:=HJ.out;omega
     case rel=>exact ⟨j+1,(show j+1+(gk-1)=L.length by have:=HJ.out;omega),by go_num,by rw [e1],k6,b6⟩
    ·have hbb:((pn:Int) == but)=false:=by simpa using hbt
     have HN2:Aside (allTo S no nt but (j+1)=allTo S no nt but j ++ rowA S (pn:Int) ++ hM S (pn:Int)):=by
      show allTo S no nt but (j+1)=_
      rw [HNj.out];unfold butT;rw [if_neg hbt];unfold rowT;rw [List.append_assoc]
     have hwf:(Lit.int .i64 (pn:Int)).wf=true:=wf64 (by omega)
     obtain ⟨sn,hsn,hsl⟩:∃sn:Nat,stJ S.P (pn:Int)=(sn:Int)∧sn<100:=⟨(stJ S.P (pn:Int)).toNat,by omega,by omega⟩
     have hSt:=fun V (kV:KC w0 V m kb C9 S q)=>kV.state (pn:Int) hwf
     rw [hsn] at hSt
     have hIP1:=fun W=>itoa_small pn (by omega) W
     have hIS1:=fun W=>itoa_small sn hsl W
     have hTe:=fun c V hg=>tell_err c V hg
     have hrA:rowA S (pn:Int)=[124] ++ Lib.decDigits pn ++ [32] ++ Lib.decDigits sn ++ [32] ++ Lib.decDigits (hA S (pn:Int)) ++ [32] ++ Lib.decDigits (hB S (pn:Int)) ++ [32] ++ Lib.decDigits (hC S (pn:Int)) ++ [32] ++ Lib.decDigits (hE S (pn:Int)):=by
      unfold rowA;rw [hsn,Int.toNat_natCast,Int.toNat_natCast]
     have hr132:=hrow.1
     have hr2300:=hrow.2
     unfold rowT at hr2300
     rw [List.length_append] at hr2300
     have hU8:=HU8.out
     have HHa:Aside (∀x:Nat,x<100→True):=fun _ _=>trivial
     cases ho:S.O (pn:Int) with
     |none=>
      have q1:hA S (pn:Int)=0:=by unfold hA;rw [ho]
      have q2:hB S (pn:Int)=0:=by unfold hB;rw [ho]
      have q3:hC S (pn:Int)=0:=by unfold hC;rw [ho]
      have q4:hE S (pn:Int)=7:=by unfold hE;rw [ho];rfl
      have q5:hM S (pn:Int)=[]:=by unfold hM;rw [ho]
      have q1:hA S (pn:Int)=0:=by unfold hA;rw [ho]
      have q2:hB S (pn:Int)=0:=by unfold hB;rw [ho]
      have q3:hC S (pn:Int)=0:=by unfold hC;rw [ho]
      have q4:hE S (pn:Int)=7:=by unfold hE;rw [ho];rfl
      have q5:hM S (pn:Int)=[]:=by unfold hM;rw [ho]
      have hH:=k6.has_no ho hwf
      rw [q1,q2,q3,q4] at hrA
      rw [q5] at hr2300 HN2
      clear q1 q2 q3 q4 q5 hU8 HNj hrow ho
      have hIP1:∀W:World,Calls Tryz.prog 105 #[.int .i64 (pn:Int)] W fun e w'=>e=.returned (.string ⟨(Lib.decDigits pn).toArray⟩)∧w'=W:=fun W=>itoa_small pn (by omega) W
      have lP1:=dec_len (i:=pn) (by omega)
      have hIS1:∀W:World,Calls Tryz.prog 105 #[.int .i64 (sn:Int)] W fun e w'=>e=.returned (.string ⟨(Lib.decDigits sn).toArray⟩)∧w'=W:=fun W=>itoa_small sn (by omega) W
      have lS1:=dec_len (i:=sn) (by omega)
      have hIA1:∀W:World,Calls Tryz.prog 105 #[.int .i64 (0:Int)] W fun e w'=>e=.returned (.string ⟨(Lib.decDigits 0).toArray⟩)∧w'=W:=fun W=>itoa_small 0 (by omega) W
      have lA1:=dec_len (i:=0) (by omega)
      have hIE1:∀W:World,Calls Tryz.prog 105 #[.int .i64 (7:Int)] W fun e w'=>e=.returned (.string ⟨(Lib.decDigits 7).toArray⟩)∧w'=W:=fun W=>itoa_small 7 (by omega) W
      have lE1:=dec_len (i:=7) (by omega)
      have hT9:∀V:World,V.cell? ⟨0,0,none⟩=some errT→Calls Tryz.prog 17 #[uer 7] V fun e w'=>e=.returned (.int .i64 7)∧Below V.heap.size V w':=fun V hg=>tell_err 7 V hg
      generalize Lib.decDigits pn=P1 at *
      generalize Lib.decDigits sn=S1 at *
      generalize Lib.decDigits 0=A1 at *
      generalize Lib.decDigits 7=E1 at *
      obtain ⟨U1,hU1⟩:∃U:List UInt8,[124] ++ P1=U:=⟨_,rfl⟩
      have f1:=cat_p P1
      rw [hU1] at f1
      rw [hU1] at hrA
      have g1:U1.length=1+P1.length:=by rw [←hU1,List.length_append];rfl
      have z1:¬9223372036854775807<1+P1.length:=by omega
      obtain ⟨U2,hU2⟩:∃U:List UInt8,U1 ++ [32]=U:=⟨_,rfl⟩
      have f2:=cat_b U1
      rw [hU2] at f2
      rw [hU2] at hrA
      have g2:U2.length=U1.length+1:=by rw [←hU2,List.length_append];rfl
      have z2:¬9223372036854775807<U1.length+1:=by omega
      obtain ⟨U3,hU3⟩:∃U:List UInt8,U2 ++ S1=U:=⟨_,rfl⟩
      have f3:=cat_t U2 S1
      rw [hU3] at f3
      rw [hU3] at hrA
      have g3:U3.length=U2.length+S1.length:=by rw [←hU3,List.length_append]
      have z3:¬9223372036854775807<U2.length+S1.length:=by omega
      obtain ⟨U4,hU4⟩:∃U:List UInt8,U3 ++ [32]=U:=⟨_,rfl⟩
      have f4:=cat_b U3
      rw [hU4] at f4
      rw [hU4] at hrA
      have g4:U4.length=U3.length+1:=by rw [←hU4,List.length_append];rfl
      have z4:¬9223372036854775807<U3.length+1:=by omega
      obtain ⟨U5,hU5⟩:∃U:List UInt8,U4 ++ A1=U:=⟨_,rfl⟩
      have f5:=cat_t U4 A1
      rw [hU5] at f5
      rw [hU5] at hrA
      have g5:U5.length=U4.length+A1.length:=by rw [←hU5,List.length_append]
      have z5:¬9223372036854775807<U4.length+A1.length:=by omega
      obtain ⟨U6,hU6⟩:∃U:List UInt8,U5 ++ [32]=U:=⟨_,rfl⟩
      have f6:=cat_b U5
      rw [hU6] at f6
      rw [hU6] at hrA
      have g6:U6.length=U5.length+1:=by rw [←hU6,List.length_append];rfl
      have z6:¬9223372036854775807<U5.length+1:=by omega
      obtain ⟨U7,hU7⟩:∃U:List UInt8,U6 ++ A1=U:=⟨_,rfl⟩
      have f7:=cat_t U6 A1
      rw [hU7] at f7
      rw [hU7] at hrA
      have g7:U7.length=U6.length+A1.length:=by rw [←hU7,List.length_append]
      have z7:¬9223372036854775807<U6.length+A1.length:=by omega
      obtain ⟨U8,hU8⟩:∃U:List UInt8,U7 ++ [32]=U:=⟨_,rfl⟩
      have f8:=cat_b U7
      rw [hU8] at f8
      rw [hU8] at hrA
      have g8:U8.length=U7.length+1:=by rw [←hU8,List.length_append];rfl
      have z8:¬9223372036854775807<U7.length+1:=by omega
      obtain ⟨U9,hU9⟩:∃U:List UInt8,U8 ++ A1=U:=⟨_,rfl⟩
      have f9:=cat_t U8 A1
      rw [hU9] at f9
      rw [hU9] at hrA
      have g9:U9.length=U8.length+A1.length:=by rw [←hU9,List.length_append]
      have z9:¬9223372036854775807<U8.length+A1.length:=by omega
      obtain ⟨U10,hU10⟩:∃U:List UInt8,U9 ++ [32]=U:=⟨_,rfl⟩
      have f10:=cat_b U9
      rw [hU10] at f10
      rw [hU10] at hrA
      have g10:U10.length=U9.length+1:=by rw [←hU10,List.length_append];rfl
      have z10:¬9223372036854775807<U9.length+1:=by omega
      obtain ⟨U11,hU11⟩:∃U:List UInt8,U10 ++ E1=U:=⟨_,rfl⟩
      have f11:=cat_t U10 E1
      rw [hU11] at f11
      rw [hU11] at hrA
      have g11:U11.length=U10.length+E1.length:=by rw [←hU11,List.length_append]
      have z11:¬9223372036854775807<U10.length+E1.length:=by omega
      rw [hrA] at hr132 hr2300 HN2
      clear hrA
      generalize hZ0:allTo S no nt but j=Z0 at *
      obtain ⟨Z1,hZ1⟩:∃Z:List UInt8,Z0 ++ U11=Z:=⟨_,rfl⟩
      have fz:=cat_t Z0 U11
      rw [hZ1] at fz
      have gz:Z1.length=Z0.length+U11.length:=by rw [←hZ1,List.length_append]
      have zz:¬9223372036854775807<Z0.length+U11.length:=by omega
      have HNz:Aside (allTo S no nt but (j+1)=Z1 ++ []):=by
       show allTo S no nt but (j+1)=_
       rw [HN2.out,←hZ1]
      have hgm:Z1.length+2300≤1000000:=by omega
      clear HN2 hZ0
      clear hU1 g1
      clear hU2 g2
      clear hU3 g3
      clear hU4 g4
      clear hU5 g5
      clear hU6 g6
      clear hU7 g7
      clear hU8 g8
      clear hU9 g9
      clear hU10 g10
      clear hU11 g11
      clear gz hZ1 hr132 hr2300
      go_upto_region 10 with (go_at_call 38;refine hH.mono ?_;rintro e w7 ⟨rfl,k7,b7⟩)
      have y7:=k7.at hmem
      have B7:=b6.trans (b7.mono b6.size)
      clear y0 hH
      go_region_held3 (fun w'=>w'.cell? ⟨bp,j,none⟩=some (.int .i64 (pn:Int))) (first|exact y8|exact y7) (first
       |(go_at_call 105;refine (hIP1 _).mono ?_;rintro e wi ⟨rfl,hwi⟩;subst wi)
       |(go_at_call 105;refine (hIS1 _).mono ?_;rintro e wi ⟨rfl,hwi⟩;subst wi)
       |(go_at_call 105;refine (hIA1 _).mono ?_;rintro e wi ⟨rfl,hwi⟩;subst wi)
       |(go_at_call 105;refine (hIE1 _).mono ?_;rintro e wi ⟨rfl,hwi⟩;subst wi)
       |(go_at_call 35;refine (hSt _ (by first|exact k7|exact k7.below ⟨rfl,rfl,rfl,Nat.le_refl _,fun _ _=>rfl⟩)).mono ?_;rintro e w8 ⟨rfl,k8,b8⟩;have y8:=k8.at hmem;have B8:=Below.next (w:=w7) b8 B7 rfl rfl rfl rfl)
       |(go_at_call 17;refine (hT9 _ k8.er).mono ?_;rintro e w9 ⟨rfl,b9⟩;have k9:=k8.below (w':=w9) (Below.next (w:=w8) b9 (Below.refl _ w8) rfl rfl rfl rfl);have y8:=k9.at hmem;have B9:=Below.next (w:=w8) b9 B8 rfl rfl rfl rfl))
      all_goals
       go_wp2_with fail
       go_roundg (gk-1)
       case measure=>have:=HJ.out;omega
       case rel=>exact ⟨j+1,(show j+1+(gk-1)=L.length by have:=HJ.out;omega),by go_num,by rw [HNz.out,List.append_nil],k9,B9⟩
     |some o=>
      have q1:hA S (pn:Int)=lenP (msJ S o.j):=by unfold hA;rw [ho]
      have q2:hB S (pn:Int)=resP (msJ S o.j):=by unfold hB;rw [ho]
      have q3:hC S (pn:Int)=usedN (tsJ S o.j):=by unfold hC;rw [ho]
      have q4:hE S (pn:Int)=0:=by unfold hE;rw [ho];rfl
      have q5:hM S (pn:Int)=memT S o:=by unfold hM;rw [ho];rfl
      have hH:=k6.has_yes ho
      have hMm:=fun V (kV:KC w0 V m kb C9 S q) (pV:Pow V)=>kV.memory ho hD pV
      have x1:=lenP_le (msJ S o.j)
      have x2:=resP_le (msJ S o.j)
      have x3:=hU8 o
      rw [q1,q2,q3,q4] at hrA
      rw [q5] at hr2300 HN2
      clear q1 q2 q3 q4 q5 hU8 HNj hrow ho
      generalize memT S o=MM at *
      generalize lenP (msJ S o.j)=na at *
      generalize resP (msJ S o.j)=nb at *
      generalize usedN (tsJ S o.j)=nc at *
      have hIP1:∀W:World,Calls Tryz.prog 105 #[.int .i64 (pn:Int)] W fun e w'=>e=.returned (.string ⟨(Lib.decDigits pn).toArray⟩)∧w'=W:=fun W=>itoa_small pn (by omega) W
      have lP1:=dec_len (i:=pn) (by omega)
      have hIS1:∀W:World,Calls Tryz.prog 105 #[.int .i64 (sn:Int)] W fun e w'=>e=.returned (.string ⟨(Lib.decDigits sn).toArray⟩)∧w'=W:=fun W=>itoa_small sn (by omega) W
      have lS1:=dec_len (i:=sn) (by omega)
      have hIA1:∀W:World,Calls Tryz.prog 105 #[.int .i64 (na:Int)] W fun e w'=>e=.returned (.string ⟨(Lib.decDigits na).toArray⟩)∧w'=W:=fun W=>itoa_small na (by omega) W
      have lA1:=dec_len (i:=na) (by omega)
      have hIB1:∀W:World,Calls Tryz.prog 105 #[.int .i64 (nb:Int)] W fun e w'=>e=.returned (.string ⟨(Lib.decDigits nb).toArray⟩)∧w'=W:=fun W=>itoa_small nb (by omega) W
      have lB1:=dec_len (i:=nb) (by omega)
      have hIC1:∀W:World,Calls Tryz.prog 105 #[.int .i64 (nc:Int)] W fun e w'=>e=.returned (.string ⟨(Lib.decDigits nc).toArray⟩)∧w'=W:=fun W=>itoa_small nc (by omega) W
      have lC1:=dec_len (i:=nc) (by omega)
      have hIE1:∀W:World,Calls Tryz.prog 105 #[.int .i64 (0:Int)] W fun e w'=>e=.returned (.string ⟨(Lib.decDigits 0).toArray⟩)∧w'=W:=fun W=>itoa_small 0 (by omega) W
      have lE1:=dec_len (i:=0) (by omega)
      have hT9:∀V:World,V.cell? ⟨0,0,none⟩=some errT→Calls Tryz.prog 17 #[Value.nilIface] V fun e w'=>e=.returned (.int .i64 0)∧Below V.heap.size V w':=fun V hg=>tell_err 0 V hg
      generalize Lib.decDigits pn=P1 at *
      generalize Lib.decDigits sn=S1 at *
      generalize Lib.decDigits na=A1 at *
      generalize Lib.decDigits nb=B1 at *
      generalize Lib.decDigits nc=C1 at *
      generalize Lib.decDigits 0=E1 at *
      obtain ⟨U1,hU1⟩:∃U:List UInt8,[124] ++ P1=U:=⟨_,rfl⟩
      have f1:=cat_p P1
      rw [hU1] at f1
      rw [hU1] at hrA
      have g1:U1.length=1+P1.length:=by rw [←hU1,List.length_append];rfl
      have z1:¬9223372036854775807<1+P1.length:=by omega
      obtain ⟨U2,hU2⟩:∃U:List UInt8,U1 ++ [32]=U:=⟨_,rfl⟩
      have f2:=cat_b U1
      rw [hU2] at f2
      rw [hU2] at hrA
      have g2:U2.length=U1.length+1:=by rw [←hU2,List.length_append];rfl
      have z2:¬9223372036854775807<U1.length+1:=by omega
      obtain ⟨U3,hU3⟩:∃U:List UInt8,U2 ++ S1=U:=⟨_,rfl⟩
      have f3:=cat_t U2 S1
      rw [hU3] at f3
      rw [hU3] at hrA
      have g3:U3.length=U2.length+S1.length:=by rw [←hU3,List.length_append]
      have z3:¬9223372036854775807<U2.length+S1.length:=by omega
      obtain ⟨U4,hU4⟩:∃U:List UInt8,U3 ++ [32]=U:=⟨_,rfl⟩
      have f4:=cat_b U3
      rw [hU4] at f4
      rw [hU4] at hrA
      have g4:U4.length=U3.length+1:=by rw [←hU4,List.length_append];rfl
      have z4:¬9223372036854775807<U3.length+1:=by omega
      obtain ⟨U5,hU5⟩:∃U:List UInt8,U4 ++ A1=U:=⟨_,rfl⟩
      have f5:=cat_t U4 A1
      rw [hU5] at f5
      rw [hU5] at hrA
      have g5:U5.length=U4.length+A1.length:=by rw [←hU5,List.length_append]
      have z5:¬9223372036854775807<U4.length+A1.length:=by omega
      obtain ⟨U6,hU6⟩:∃U:List UInt8,U5 ++ [32]=U:=⟨_,rfl⟩
      have f6:=cat_b U5
      rw [hU6] at f6
      rw [hU6] at hrA
      have g6:U6.length=U5.length+1:=by rw [←hU6,List.length_append];rfl
      have z6:¬9223372036854775807<U5.length+1:=by omega
      obtain ⟨U7,hU7⟩:∃U:List UInt8,U6 ++ B1=U:=⟨_,rfl⟩
      have f7:=cat_t U6 B1
      rw [hU7] at f7
      rw [hU7] at hrA
      have g7:U7.length=U6.length+B1.length:=by rw [←hU7,List.length_append]
      have z7:¬9223372036854775807<U6.length+B1.length:=by omega
      obtain ⟨U8,hU8⟩:∃U:List UInt8,U7 ++ [32]=U:=⟨_,rfl⟩
      have f8:=cat_b U7
      rw [hU8] at f8
      rw [hU8] at hrA
      have g8:U8.length=U7.length+1:=by rw [←hU8,List.length_append];rfl
      have z8:¬9223372036854775807<U7.length+1:=by omega
      obtain ⟨U9,hU9⟩:∃U:List UInt8,U8 ++ C1=U:=⟨_,rfl⟩
      have f9:=cat_t U8 C1
      rw [hU9] at f9
      rw [hU9] at hrA
      have g9:U9.length=U8.length+C1.length:=by rw [←hU9,List.length_append]
      have z9:¬9223372036854775807<U8.length+C1.length:=by omega
      obtain ⟨U10,hU10⟩:∃U:List UInt8,U9 ++ [32]=U:=⟨_,rfl⟩
      have f10:=cat_b U9
      rw [hU10] at f10
      rw [hU10] at hrA
      have g10:U10.length=U9.length+1:=by rw [←hU10,List.length_append];rfl
      have z10:¬9223372036854775807<U9.length+1:=by omega
      obtain ⟨U11,hU11⟩:∃U:List UInt8,U10 ++ E1=U:=⟨_,rfl⟩
      have f11:=cat_t U10 E1
      rw [hU11] at f11
      rw [hU11] at hrA
      have g11:U11.length=U10.length+E1.length:=by rw [←hU11,List.length_append]
      have z11:¬9223372036854775807<U10.length+E1.length:=by omega
      rw [hrA] at hr132 hr2300 HN2
      clear hrA
      generalize hZ0:allTo S no nt but j=Z0 at *
      obtain ⟨Z1,hZ1⟩:∃Z:List UInt8,Z0 ++ U11=Z:=⟨_,rfl⟩
      have fz:=cat_t Z0 U11
      rw [hZ1] at fz
      have gz:Z1.length=Z0.length+U11.length:=by rw [←hZ1,List.length_append]
      have zz:¬9223372036854775807<Z0.length+U11.length:=by omega
      have HNz:Aside (allTo S no nt but (j+1)=Z1 ++ MM):=by
       show allTo S no nt but (j+1)=_
       rw [HN2.out,←hZ1]
      have hgm:Z1.length+2300≤1000000:=by omega
      clear HN2 hZ0
      clear hU1 g1
      clear hU2 g2
      clear hU3 g3
      clear hU4 g4
      clear hU5 g5
      clear hU6 g6
      clear hU7 g7
      clear hU8 g8
      clear hU9 g9
      clear hU10 g10
      clear hU11 g11
      clear gz hZ1 hr132
      go_upto_region 10 with (go_at_call 38;refine hH.mono ?_;rintro e w7 ⟨rfl,k7,b7⟩)
      have y7:=k7.at hmem
      have B7:=b6.trans (b7.mono b6.size)
      clear y0 hH
      go_region_held3 (fun w'=>w'.cell? ⟨bp,j,none⟩=some (.int .i64 (pn:Int))) (first|exact y8|exact y7) (first
       |(go_at_call 105;refine (hIP1 _).mono ?_;rintro e wi ⟨rfl,hwi⟩;subst wi)
       |(go_at_call 105;refine (hIS1 _).mono ?_;rintro e wi ⟨rfl,hwi⟩;subst wi)
       |(go_at_call 105;refine (hIA1 _).mono ?_;rintro e wi ⟨rfl,hwi⟩;subst wi)
       |(go_at_call 105;refine (hIB1 _).mono ?_;rintro e wi ⟨rfl,hwi⟩;subst wi)
       |(go_at_call 105;refine (hIC1 _).mono ?_;rintro e wi ⟨rfl,hwi⟩;subst wi)
       |(go_at_call 105;refine (hIE1 _).mono ?_;rintro e wi ⟨rfl,hwi⟩;subst wi)
       |(go_at_call 35;refine (hSt _ (by first|exact k7|exact k7.below ⟨rfl,rfl,rfl,Nat.le_refl _,fun _ _=>rfl⟩)).mono ?_;rintro e w8 ⟨rfl,k8,b8⟩;have y8:=k8.at hmem;have B8:=Below.next (w:=w7) b8 B7 rfl rfl rfl rfl)
       |(go_at_call 17;refine (hT9 _ k8.er).mono ?_;rintro e w9 ⟨rfl,b9⟩;have k9:=k8.below (w':=w9) (Below.next (w:=w8) b9 (Below.refl _ w8) rfl rfl rfl rfl);have y8:=k9.at hmem;have B9:=Below.next (w:=w8) b9 B8 rfl rfl rfl rfl))
      all_goals
       have hM9:=hMm _ k9 (hp.below B9)
       have fm:=cat_t Z1 MM
       have zm:¬9223372036854775807<Z1.length+MM.length:=by omega
       clear hMm hr2300 hgm
       go_wp2_with (go_at_call 106;refine hM9.mono ?_;rintro e wm ⟨rfl,bm⟩)
       go_roundg (gk-1)
       case measure=>have:=HJ.out;omega
       case rel=>exact ⟨j+1,(show j+1+(gk-1)=L.length by have:=HJ.out;omega),by go_num,by rw [HNz.out],k9.below bm,Below.next (w:=w9) bm B9 rfl rfl rfl rfl⟩
   ·have hjE:j=L.length:=by have:=HJ.out;omega
    subst hjE
    rw [HEnd.out]
    go_wp2_with fail
    go_ret
    exact ⟨rfl,hw.trans (b6.mono hw.size)⟩
end
theorem wf_rngC {n:Int}(h:(Lit.int .i64 n).wf=true):-9223372036854775808≤n∧n≤9223372036854775807:=by
 have b:IntKind.max .i64=9223372036854775807:=rfl
 have b2:IntKind.min .i64=-9223372036854775808:=rfl
 simp only [Lit.wf,b,b2,Bool.and_eq_true,decide_eq_true_eq] at h;omega
section
variable {w0 w w':World}{m:Int}{kb q:Nat}{C:Kcs}{S S':KS}{p a b c:Int}{s t:List UInt8}
theorem KC.nums (h:KC w0 w m kb C S q):∃no nt,IsN S.D.E no∧IsNum S.D.T nt∧no<1000∧nt<1000:=by
 obtain ⟨H,A,e,k,_⟩:=h
 obtain ⟨no,hno⟩:=k.1.numE
 obtain ⟨nt,hnt⟩:=k.1.numT
 refine ⟨no,nt,hno,hnt,?_,?_⟩
 ·have h1:=hno.few k.1.inv.core.giv.n0 k.1.inv.core.giv.e
  have h2:=k.1.inv.core.giv.n1
  omega
 ·obtain ⟨ks,h1,rfl,h3⟩:=hnt
  have:=int_sub (b:=(List.range 64).map (fun i:Nat=>(i:Int))) h1 (fun x hx=>by
   have h4:=k.1.inv.core.lv.toTrOk.key x ((h3 x).1 hx)
   exact List.mem_map.2 ⟨x.toNat,List.mem_range.2 (by omega),by omega⟩)
  simp only [List.length_map,List.length_range] at this
  omega
theorem KC.refused {W e:Int}(h:KC w0 w m kb C S q) (r:CallK S p a b c s t W e S') (h0:e≠0) (h10:e≠10) (h12:e=12→W<8∨10<W):Vw S S':=by
 obtain ⟨_,_,_,k,_⟩:=h
 exact r.refused k h0 h10 h12
end
theorem refuses_long (n:Int) (ad:Option Addr) (len cap:Nat) (q:Nat→CI) (w:World) (hsc:CScr w ad len q) (h:¬Short q len) :
 Calls Tryz.prog 5 #[.int .i64 n,.slice ad len cap] w fun e w'=>e=.returned (.bool true)∧Below w.heap.size w w':=by
 have hC:=calls_no ad len cap q w hsc h
 clear hsc h
 go_enter Tryz.func5,Tryz.ntmps5
 go_wp2_with (go_at_call 31;refine hC.mono ?_;rintro e w1 ⟨rfl,hw1⟩;subst w1)
 go_ret
 exact ⟨rfl,Below.refl _ _⟩
theorem refuses_short (n:Int) (ad:Option Addr) (len cap:Nat) (q:Nat→CI) (w:World) (hsc:CScr w ad len q) (hcw:∀i,i<len→(Lit.int .i64 (q i).c).wf=true) (hS:Short q len) (m:Int) (hm:w.cell? ⟨4,0,none⟩=some (.int .i64 m)) (he:w.cell? ⟨0,0,none⟩=some errT) (ht:Tab64 w) (hp:Pow w) :
 Calls Tryz.prog 5 #[.int .i64 n,.slice ad len cap] w fun e w'=>e=.returned (.bool true)∧Below w.heap.size w w':=by
 have hC:=calls_yes ad len cap q w hsc hS
 have hl40:len≤40:=hS.1
 have hK:=kept_ok (ok:=true) w hm he ⟨ht.lt,fun _=>ht⟩
 obtain ⟨n8,hn8,hp1⟩:=talk_pick n 12 (by omega) (by omega)
 have hF:=fun V (b:Below w.heap.size w V)=>kc_new w V b (1+n8) (by omega) (by omega) hm he ht
 have hn9:((1+n8:Nat):Int)=1+(n8:Int):=by omega
 rw [hn9] at hF
 clear hn9
 have hSn:Aside ((firstS (1+n8)).n<100):=(show 1+n8<100 by omega)
 have hSW:Aside (Wd64 (firstS (1+n8)).W):=(show Wd64 (firstS (1+n8)).W from fun i j=>⟨by show (-9223372036854775808:Int)≤0;omega,by show (0:Int)≤9223372036854775807;omega⟩)
 clear hm he ht
 go_enter Tryz.func5,Tryz.ntmps5
 go_upto_region 8 with (first
  |(go_at_call 31;refine hC.mono ?_;rintro e w1 ⟨rfl,hw1⟩;subst w1)
  |(go_at_call 11;refine hK.mono ?_;rintro e w1 ⟨rfl,b1⟩;have c0:=hF _ b1)
  |(go_at_call 18;refine (hp1 _).mono ?_;rintro e w3 ⟨rfl,hw3⟩;subst w3)
  |(go_at_call 12;refine c0.mono ?_;rintro e w2 ⟨kb,rfl,k2⟩))
 clear c0 hF hK hC hp1 b1
 generalize firstS (1+n8)=S1 at *
 go_wp2_with fail
 go_loopg [7,8,9,10] len (fun g s7 _ _ _ wx=>∃(i:Nat) (S:KS),Aside (i+g=len)∧s7=.int .i64 (i:Int)∧KC w wx m kb [] S i∧Aside (S.n<100)∧Aside (Wd64 S.W))
 case atStart=>exact ⟨0,S1,(show 0+len=len by omega),rfl,k2,hSn,hSW⟩
 case round=>
  clear k2 hSn hSW
  obtain ⟨i,S,HI,rfl,k,HN,HW⟩:=hrel
  have hb:=k.bel
  by_cases hlt:(i:Int)<(len:Int)
  ·rcases hsc.keep hb with h0|⟨blk,off,rfl,hbl,hss⟩
   ·exfalso;omega
   obtain ⟨⟨c0,c1,c2,c3,c4,c5,c6⟩,hok⟩:=hss i (by omega)
   have hbw:Aside (∀V,Below wr.heap.size wr V→∀x:Nat,V.cell? ⟨blk,x,none⟩=wr.cell? ⟨blk,x,none⟩):=fun V bV x=>bV.cell (p:=⟨blk,x,none⟩) hbl
   have hsl:=hS.2 i (by omega)
   have hc64:=wf_rngC (hcw i (by omega))
   have hP:=fun V (kV:KC w V m kb [] S i)=>kV.call (by omega) (q i) hok hsl.1 hsl.2
   obtain ⟨no,nt,hno,hnt,hno1,hnt1⟩:=k.nums
   have hA1:=k.all HW.out (hp.below hb) hno hnt 0 HN.out hno1 hnt1
   have HX:Aside (∀S' V,Vw S S'→Wd64 S'.W→S'.n<100→KC w V m kb [] S' (i+1)→Calls Tryz.prog 32 #[wp kb,.int .i64 0] V fun e w'=>e=.returned (tx (allT S no nt 0))∧Below V.heap.size V w'):=fun S' V v h1 h2 kV=>by
    have:=kV.all h1 (hp.below kV.bel) (v.open hno) (v.nodes hnt) 0 h2 hno1 hnt1
    rw [v.all] at this
    exact this
   have HT:Aside (∀er V,V.cell? ⟨0,0,none⟩=some errT→Calls Tryz.prog 17 #[uev er] V fun e w'=>e=.returned (.int .i64 er)∧Below V.heap.size V w'):=fun er V hg=>tell_err er V hg
   have HC:Aside (∀V,Below w.heap.size w V→V.cell? ⟨blk,off+i*7,none⟩=some (.int .i64 (q i).what)):=fun V bV=>by
    rcases hsc.keep bV with h0|⟨b',o',e,_,hh⟩
    ·exfalso;omega
    ·obtain ⟨rfl,rfl⟩:b'=blk∧o'=off:=by cases e;exact ⟨rfl,rfl⟩
     exact (hh i (by omega)).1.1
   clear hss hok hsl hb hno hnt hno1 hnt1
   generalize (q i).what=W at *
   generalize (q i).p=p at *
   generalize (q i).a=a at *
   generalize (q i).b=b at *
   generalize (q i).c=c at *
   generalize (q i).s=s at *
   generalize (q i).t=t at *
   generalize allT S no nt 0=X at *
   go_upto_region 13 with (first
    |(go_at_call 32;refine hA1.mono ?_;rintro e w4 ⟨rfl,b4⟩;have k4:=k.below b4;have c0':=(hbw.out _ b4 _).trans c0;have c1':=(hbw.out _ b4 _).trans c1;have c2':=(hbw.out _ b4 _).trans c2;have c3':=(hbw.out _ b4 _).trans c3;have c4':=(hbw.out _ b4 _).trans c4;have c5':=(hbw.out _ b4 _).trans c5;have c6':=(hbw.out _ b4 _).trans c6)
    |(go_at_call 33;refine (hP _ k4).mono ?_;rintro e w5 ⟨er,S',rfl,hR,kz⟩))
   have HW':Aside (Wd64 S'.W):=hR.wd64 HW.out hc64
   have HN':Aside (S'.n<100):=by show S'.n<100;rw [hR.n];exact HN.out
   have hR9:Aside (er≠0→er≠10→(er=12→W<8∨10<W)→∀V,KC w V m kb [] S' (i+1)→Calls Tryz.prog 32 #[wp kb,.int .i64 0] V fun e w'=>e=.returned (tx X)∧Below V.heap.size V w'):=fun h1 h2 h3 V kV=>HX.out S' V (k4.refused hR h1 h2 h3) HW'.out HN'.out kV
   have hTz:=HT.out er
   have cz:=HC.out _ kz.bel
   clear HT HX hR hP hA1 hcw HN HW k k4 b4 c0 c1 c2 c3 c4 c5 c6 c0' c1' c2' c3' c4' c5' c6' hc64 hbw
   by_cases hE0:er=0
   ·subst hE0
    clear hR9
    generalize uev 0=ue at *
    go_wp2_with (first
     |(go_at_call 17;refine (hTz _ kz.er).mono ?_;rintro e wz ⟨rfl,bz⟩;have kz:=kz.below bz;have cz:=HC.out _ kz.bel)
     |(go_at_call 32;refine (hAz _ kz).mono ?_;rintro e wz ⟨rfl,bz⟩;have kz:=kz.below bz;have cz:=HC.out _ kz.bel))
    go_roundg (gk-1)
    case measure=>have:=HI.out;omega
    case rel=>exact ⟨i+1,S',(show i+1+(gk-1)=len by have:=HI.out;omega),by go_num,kz,HN',HW'⟩
   by_cases hE10:er=10
   ·subst hE10
    clear hR9 hE0
    generalize uev 10=ue at *
    go_wp2_with (first
     |(go_at_call 17;refine (hTz _ kz.er).mono ?_;rintro e wz ⟨rfl,bz⟩;have kz:=kz.below bz;have cz:=HC.out _ kz.bel)
     |(go_at_call 32;refine (hAz _ kz).mono ?_;rintro e wz ⟨rfl,bz⟩;have kz:=kz.below bz;have cz:=HC.out _ kz.bel))
    go_roundg (gk-1)
    case measure=>have:=HI.out;omega
    case rel=>exact ⟨i+1,S',(show i+1+(gk-1)=len by have:=HI.out;omega),by go_num,kz,HN',HW'⟩
   by_cases hE12:er=12
   ·subst hE12
    by_cases hW8:W<8
    ·have hAz:=hR9.out hE0 hE10 (fun _=>.inl hW8)
     clear hR9 hE0 hE10
     generalize uev 12=ue at *
     go_wp2_with (first
      |(go_at_call 17;refine (hTz _ kz.er).mono ?_;rintro e wz ⟨rfl,bz⟩;have kz:=kz.below bz;have cz:=HC.out _ kz.bel)
      |(go_at_call 32;refine (hAz _ kz).mono ?_;rintro e wz ⟨rfl,bz⟩;have kz:=kz.below bz;have cz:=HC.out _ kz.bel))
     go_roundg (gk-1)
     case measure=>have:=HI.out;omega
     case rel=>exact ⟨i+1,S',(show i+1+(gk-1)=len by have:=HI.out;omega),by go_num,kz,HN',HW'⟩
    by_cases hW10:10<W
    ·have hAz:=hR9.out hE0 hE10 (fun _=>.inr hW10)
     clear hR9 hE0 hE10
     generalize uev 12=ue at *
     go_wp2_with (first
      |(go_at_call 17;refine (hTz _ kz.er).mono ?_;rintro e wz ⟨rfl,bz⟩;have kz:=kz.below bz;have cz:=HC.out _ kz.bel)
      |(go_at_call 32;refine (hAz _ kz).mono ?_;rintro e wz ⟨rfl,bz⟩;have kz:=kz.below bz;have cz:=HC.out _ kz.bel))
     go_roundg (gk-1)
     case measure=>have:=HI.out;omega
     case rel=>exact ⟨i+1,S',(show i+1+(gk-1)=len by have:=HI.out;omega),by go_num,kz,HN',HW'⟩
    clear hR9 hE0 hE10
    generalize uev 12=ue at *
    go_wp2_with (first
     |(go_at_call 17;refine (hTz _ kz.er).mono ?_;rintro e wz ⟨rfl,bz⟩;have kz:=kz.below bz;have cz:=HC.out _ kz.bel)
     |(go_at_call 32;refine (hAz _ kz).mono ?_;rintro e wz ⟨rfl,bz⟩;have kz:=kz.below bz;have cz:=HC.out _ kz.bel))
    go_roundg (gk-1)
    case measure=>have:=HI.out;omega
    case rel=>exact ⟨i+1,S',(show i+1+(gk-1)=len by have:=HI.out;omega),by go_num,kz,HN',HW'⟩
   have hAz:=hR9.out hE0 hE10 (fun h=>absurd h hE12)
   have x0:(er == 0)=false:=by simpa using hE0
   have x10:(er == 10)=false:=by simpa using hE10
   have x12:(er == 12)=false:=by simpa using hE12
   clear hR9
   generalize uev er=ue at *
   go_wp2_with (first
    |(go_at_call 17;refine (hTz _ kz.er).mono ?_;rintro e wz ⟨rfl,bz⟩;have kz:=kz.below bz;have cz:=HC.out _ kz.bel)
    |(go_at_call 32;refine (hAz _ kz).mono ?_;rintro e wz ⟨rfl,bz⟩;have kz:=kz.below bz;have cz:=HC.out _ kz.bel))
   go_roundg (gk-1)
   case measure=>have:=HI.out;omega
   case rel=>exact ⟨i+1,S',(show i+1+(gk-1)=len by have:=HI.out;omega),by go_num,kz,HN',HW'⟩
  ·go_wp2_with fail
   go_ret
   exact ⟨rfl,hb⟩
end Go.Proofs.YtcfhanoekniaaaaGreatDoor
namespace Go.Proofs.YtcfhanoekniaaaaGreatDoor
open Go.ChangeShapes Go.WideShapes Go.ChangeAt Go.RowKit
def refusesList:List (String×DataW Unit):=Rows.kernelRefusesRow.laid.filter fun x=>x.2.handleName?.isNone
theorem refuses_parts {W:World}(h:laidMetH Tryz.prog Rows.kernelRefusesRow.laid W):laidMet Tryz.prog refusesList W∧handlesMet Tryz.prog [("errors.errorType",Rows.laid_errors_errorType)] W:=h
def refusesName:String:=((refusesList.drop 1).map (·.1)).headD ""
theorem refuses_global:Tryz.prog.globalNamed refusesName=some 2:=by kernel_rfl
theorem refuses_second:refusesList=refusesList.headD ("",.agg []) :: (refusesName,Rows.laid_math_bits_deBruijn64tab) :: refusesList.drop 2:=by kernel_rfl
theorem refuses_tab {W:World}(h:laidMetH Tryz.prog Rows.kernelRefusesRow.laid W):Tab64 W:=by
 have h1:=(refuses_parts h).1
 rw [refuses_second] at h1
 exact tab64_head refuses_global (laidMet_tail h1)
theorem refuses_third:refusesList=refusesList.headD ("",.agg []) :: (refusesName,Rows.laid_math_bits_deBruijn64tab) :: (powName,Lib.tabData .u64 Lib.pow10Tab) :: refusesList.drop 3:=by kernel_rfl
theorem refuses_pow {W:World}(h:laidMetH Tryz.prog Rows.kernelRefusesRow.laid W):Pow W:=by
 have h1:=(refuses_parts h).1
 rw [refuses_third] at h1
 exact Lib.tabIs_of_head powGlobal (t:=441) (e:=399) (n:=20) (by kernel_rfl) Tryz.underlying441 Tryz.underlying399 (by kernel_rfl) (by kernel_rfl) (laidMet_tail (laidMet_tail h1))
theorem refuses_met (os:Os) (args:Array Value):laidMetH Tryz.prog Rows.kernelRefusesRow.laid (({ World.holding Tryz.prog os ⟨#[],#[],[]⟩ with heap:=((((((World.holding Tryz.prog os ⟨#[],#[],[]⟩).heap.modify 0 fun | .cells _ t frozen=>.cells #[errT] t frozen|o=>o).modify 3 fun | .cells _ t frozen=>.cells (litCells Rows.laid_internal_strconv_uint64pow10) t frozen|o=>o).modify 1 fun | .cells _ t frozen=>.cells (litCells Rows.laid_math_bits_deBruijn32tab) t frozen|o=>o).modify 2 fun | .cells _ t frozen=>.cells (litCells Rows.laid_math_bits_deBruijn64tab) t frozen|o=>o).modify 6 fun | .cells _ t frozen=>.cells (litFlat Rows.laid_unicode_utf8_acceptRanges) t frozen|o=>o).modify 5 fun | .cells _ t frozen=>.cells (litFlat Rows.laid_unicode_utf8_first) t frozen|o=>o }:World).forCall (fun _ _=>0) ⟨#[],args,[]⟩).memory:=
 laidMetH_of_parts (laidMet_of_run' 8 (by kernel_rfl) (by kernel_rfl)) (by kernel_rfl)
theorem refuses_lifted (os:Os) (started:os.Started) (H:Type) (enc:TypeId×Value→H) :
 ReturnsInHanded {} Tryz.checked os 5 .any (fun w args=>(Rows.kernelRefusesSpec.pre enc Tryz.prog Tryz.f5 [] false w args∧laidMetH Tryz.prog Rows.kernelRefusesRow.laid w)∧sizedMet enc Tryz.prog Tryz.f5 (OpenSpec.ofChange Rows.kernelRefusesSpec) false w args)
  (Rows.kernelRefusesSpec.post enc Tryz.prog Tryz.f5 false true false false):=by
 refine returns_and_shaped (C:=Tryz.checked) (X:=fun w _=>laidMetH Tryz.prog Rows.kernelRefusesRow.laid w) (fun _ _ _ hh h=>h.of_heap hh) ownNone started (by kernel_rfl) Tryz.func5
  (ChangeSpec.witness_at (enc:=enc) (C:=Tryz.checked) (os:=os) (X:=fun w _=>laidMetH Tryz.prog Rows.kernelRefusesRow.laid w) false ({ World.holding Tryz.prog os ⟨#[],#[],[]⟩ with heap:=((((((World.holding Tryz.prog os ⟨#[],#[],[]⟩).heap.modify 0 fun | .cells _ t frozen=>.cells #[errT] t frozen|o=>o).modify 3 fun | .cells _ t frozen=>.cells (litCells Rows.laid_internal_strconv_uint64pow10) t frozen|o=>o).modify 1 fun | .cells _ t frozen=>.cells (litCells Rows.laid_math_bits_deBruijn32tab) t frozen|o=>o).modify 2 fun | .cells _ t frozen=>.cells (litCells Rows.laid_math_bits_deBruijn64tab) t frozen|o=>o).modify 6 fun | .cells _ t frozen=>.cells (litFlat Rows.laid_unicode_utf8_acceptRanges) t frozen|o=>o).modify 5 fun | .cells _ t frozen=>.cells (litFlat Rows.laid_unicode_utf8_first) t frozen|o=>o }:World) #[.int .i64 0,.slice none 0 0] 8 rfl (by kernel_rfl) (by kernel_rfl) (by kernel_rfl) (by kernel_rfl) (by kernel_rfl) (refuses_met os _)) ?_
 intro W base args ds gs before hval0 hW hL hsh
 have hval:∀(j:Nat) t v,Tryz.f5.params[j]? = some t→args[j]? = some v→Value.okWide Tryz.prog W .any base t v:=hval0
 have hW':=hW
 obtain ⟨p,q,hA0,hV0,rfl,hfz,hnd⟩:=hW
 have hA:DataW.TrodAll enc Tryz.prog W 0 (fun _=>true) true Tryz.f5.params.toList args.toList ds p:=hA0
 have hV:DataW.TrodVars enc Tryz.prog W (fun _=>true) [] gs q:=hV0
 rw [Tryz.params5] at hA hval
 obtain ⟨v0,vs0,d0,ds0,p0,q0,hargs,rfl,rfl,h0,r0⟩:=trodAll_cons hA
 obtain ⟨v1,vs1,d1,ds1,p1,q1,rfl,rfl,rfl,h1,r1⟩:=trodAll_cons r0
 obtain ⟨rfl,rfl,rfl⟩:=trodAll_nil r1
 obtain rfl:args=#[v0,v1]:=by cases args;simp_all
 obtain ⟨n0,rfl,rfl,rfl,hw0⟩:=open_int Tryz.underlying3 (hval 0 3 v0 rfl rfl) h0
 obtain ⟨a1,len1,cap1,rfl⟩:=okWide_slice Tryz.underlying66 (hval 1 66 v1 rfl rfl)
 have k1:=h1
 have lt1:∀x∈p1,x.block<W.heap.size:=by obtain ⟨m,hm⟩:=k1;exact DataW.trod_lt m _ _ _ hm
 obtain ⟨fuel1,hf1⟩:=h1
 obtain ⟨qu1,hqu1,hc1⟩:=open_callsC (by simpa [Value.cells] using hf1)
 have hg:=handle_of (refuses_parts hL).2
 have hT:=refuses_tab hL
 have hpw:=refuses_pow hL
 obtain ⟨m,hm⟩:=maxLen_of hsh
 obtain ⟨rfl,rfl⟩:gs=[]∧q=[]:=by
  cases gs with
  |nil=>exact ⟨rfl,hV⟩
  |cons g r=>exact absurd hV (by intro h;cases h)
 have key:Calls Tryz.prog 5 #[.int .i64 n0,.slice a1 len1 cap1] W fun e w'=>e=.returned (.bool true)∧Below W.heap.size W w':=by
  by_cases hS:Short qu1 len1
  ·exact refuses_short n0 a1 len1 cap1 qu1 W hqu1 hc1 hS m hm hg hT hpw
  ·exact refuses_long n0 a1 len1 cap1 qu1 W hqu1 hS
 refine key.mono fun e W' ⟨he,bel⟩=>?_
 subst he
 exact ⟨_,rfl,_,_,_,[],_,[],hW',trodAll_mk1 (shut_bool Tryz.underlying4 _),(trodAll_cons_mk (shut_int Tryz.underlying3 hw0) (trodAll_cons_mk (Below.trod laidOut (by kernel_rfl) (of_decide_eq_true (by kernel_rfl)) k1 bel lt1) trodAll_mk0)),rfl,bel.frame _,fun h=>by cases h⟩
end Go.Proofs.YtcfhanoekniaaaaGreatDoor

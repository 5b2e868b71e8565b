/- What the listed variables give a walk, and a contract that is told the world's shape. -/
import Derived.Test.YtcfhanoekniaaaaGreatDoorTell
import Derived.Shelf.Vars
import Derived.HandedShaped
import Derived.Test.YtcfhanoekniaaaaGreatDoorCards
import Derived.Test.YtcfhanoekniaaaaGreatDoorTie
import Derived.ChangeAt
import Derived.ChangeShapes
import Derived.WideShapes
import Derived.OpenShut
import Derived.ChangeOld
import Derived.Deep.Slices
import Derived.ChangeSame
import Derived.ChangeVars
import Derived.JoinedOf
import Derived.RowKit
import Derived.RowKitTokens
import Derived.LaidLaws
import Derived.LaidHandle
import Derived.Stop.Joined
import Derived.SevenTiedAt
import Derived.Test.YtcfhanoekniaaaaGreatDoorZScr
set_option maxRecDepth 100000
namespace Go.Proofs.YtcfhanoekniaaaaGreatDoor
open Go.ChangeShapes Go.WideShapes Go.ChangeAt Go.RowKit
theorem ownNone:ownKnob Tryz.prog.godebug=none:=by kernel_rfl
theorem laidOut:laidOutB Tryz.prog=true:=by kernel_rfl
theorem et:Tryz.prog.globalNamed "errors.errorType" = some 0:=by kernel_rfl
theorem oneRow:((List.range 505).filter fun t=>Tryz.prog.rowNamed t [101,114,114,111,114])=[27]:=by kernel_rfl
theorem typesSize:Tryz.prog.types.size=505:=by kernel_rfl
theorem handle_of {W:World}(h:handlesMet Tryz.prog [("errors.errorType",Rows.laid_errors_errorType)] W):W.cell? ⟨0,0,none⟩=some errT:=by
 obtain ⟨name,u,ty,e1,e2,e3,e4,e5⟩:=h _ (List.mem_singleton.2 rfl)
 have en:name=[101,114,114,111,114]:=(Option.some.inj e1).symm
 subst en
 have hu:u=350:=Option.some.inj (Eq.trans (Eq.symm e2) (by kernel_rfl))
 subst hu
 have hm:ty∈(List.range 505).filter fun t=>Tryz.prog.rowNamed t [101,114,114,111,114]:=List.mem_filter.2 ⟨List.mem_range.2 (by rw [←typesSize];exact e3),e4⟩
 rw [oneRow] at hm
 obtain rfl:=List.mem_singleton.1 hm
 have hh:typeHandle Tryz.prog 27=.pointer (some ⟨7,27,none⟩):=by kernel_rfl
 rw [hh] at e5
 simpa using World.var?_cell et e5 0
theorem maxLen_of {W:World}(h:W.ShapedOpen Tryz.prog):∃m,W.cell? ⟨4,0,none⟩=some (.int .i64 m):=
 cell_of_shapedOpen_int (t:=3) (zero:=#[.int .i64 0]) h (of_decide_eq_true (by kernel_rfl)) (by kernel_rfl) rfl (by kernel_rfl) (by kernel_rfl) Tryz.underlying3
def litFlat (d:DataW Unit):Array Value:=match d with
 |.agg l=>(l.flatMap fun x=>match x with
  |.lit (.int k n)=>[Value.int k n]
  |.agg l2=>l2.map fun y=>match y with
   |.lit (.int k n)=>Value.int k n
   |_=>.nilIface
  |_=>[]).toArray
 |_=>#[]
theorem returns_and_shaped {H:Type}{enc:TypeId×Value→H}{a:Assume}{C:Checked}{os:Os}{f:FuncId}{fn:Func}{s:ChangeSpec}{conds:List PathCond}{apart fresh handsOn again:Bool}{X:World→Array Value→Prop}
 (hX:∀(w w':World) (args:Array Value),w.heap=w'.heap→X w args→X w' args)
 (own:ownKnob C.prog.godebug=none) (started:os.Started) (noInit:C.prog.inits.idxOf? f=none) (hfn:C.prog.funcs[f]? = some fn)
 (witness:∃(w:World) (tape:Tape) (i:Input),w.os=os∧(w.forCall tape i).Shaped C.prog∧i.vars=[]∧Input.okWide C.prog (w.forCall tape i) .any w.heap.size f i∧
   ((s.pre enc C.prog fn conds apart (w.forCall tape i).memory i.args∧X (w.forCall tape i).memory i.args)∧sizedMet enc C.prog fn (OpenSpec.ofChange s) apart (w.forCall tape i).memory i.args)∧a.holds C.prog (lone (Frame.enter C.prog f i.args .normal) [] (w.forCall tape i)))
 (contract:∀(W:World) (base:Nat) (args:Array Value) (ds gs:List (DataW H)) (before:List MemPlace),
   (∀(j:Nat) t v,fn.params[j]? = some t→args[j]? = some v→Value.okWide C.prog W .any base t v)→
   DataW.Whole enc C.prog fn.params.toList s.vars apart W args.toList ds gs before→
   X W args→W.ShapedOpen C.prog→
   Calls C.prog f args W fun e W'=>∃v,e=.returned v∧s.post enc C.prog fn apart fresh handsOn again W args v W') :
 ReturnsInHanded a C os f .any (fun w args=>(s.pre enc C.prog fn conds apart w args∧X w args)∧sizedMet enc C.prog fn (OpenSpec.ofChange s) apart w args) (s.post enc C.prog fn apart fresh handsOn again):=by
 refine returnsInHanded_of_calls own started noInit witness ?_
 intro w tape i _ hsh _ hok hpre _
 obtain ⟨_,_,_,fn',hfn',_,_,_,_,hval⟩:=hok
 have e:fn'=fn:=Option.some.inj (hfn'.symm.trans hfn)
 subst e
 obtain ⟨⟨⟨ds,gs,before,hw,hc⟩,hx⟩,hz⟩:=hpre
 have hw':=DataW.Whole.of_heap (w':=w.forCall tape i) (by rfl) hw
 refine (contract (w.forCall tape i) w.heap.size i.args ds gs before hval hw' (hX _ _ _ (by rfl) hx) hsh).mono fun e W' ⟨v,he,hp⟩=>?_
 subst he
 exact ChangeSpec.post_blind hp
end Go.Proofs.YtcfhanoekniaaaaGreatDoor
namespace Go.Proofs.YtcfhanoekniaaaaGreatDoor
open Go.ChangeShapes Go.WideShapes Go.ChangeAt Go.RowKit
def litCells (d:DataW Unit):Array Value:=match d with
 |.agg l=>(l.map fun x=>match x with
  |.lit (.int k n)=>Value.int k n
  |_=>.nilIface).toArray
 |_=>#[]
theorem laidMet_tail {W:World}{x:String×DataW Unit}{r:List (String×DataW Unit)}(h:laidMet Tryz.prog (x :: r) W):laidMet Tryz.prog r W:=by
 obtain ⟨ps,⟨g,t,cs,fuel,p,q,h1,h2,h3,h4,h5,rfl⟩,hn,hk⟩:=h
 exact ⟨q,h5,(List.nodup_append.1 hn).2.1,fun b off hb=>hk b off (List.mem_append_right _ hb)⟩
theorem lits_tab64:(Rows.laid_math_bits_deBruijn64tab:DataW Unit)=.agg (Lib.deBruijn64tab.map fun (n:Nat)=>.lit (.int .u8 (n:Int))):=by kernel_rfl
theorem tab64_head {W:World}{r:List (String×DataW Unit)}{name:String}(bt:Tryz.prog.globalNamed name=some 2) (h:laidMet Tryz.prog ((name,Rows.laid_math_bits_deBruijn64tab) :: r) W):Tab64 W:=by
 obtain ⟨ps,⟨g,t,cs,fuel,p,q,hg,ht,hv,htr,_,_⟩,_,_⟩:=h
 obtain rfl:429=t:=Option.some.inj (Eq.trans (Eq.symm (show (Tryz.prog.globals[2]?).map (·.type)=some 429 by kernel_rfl)) (by rw [←Option.some.inj (bt.symm.trans hg)] at ht;exact ht))
 rw [lits_tab64] at htr
 obtain ⟨xs,m,_,hx,hlen,hxl,hf⟩:=DataW.trod_array Tryz.underlying429 htr
 have hxs:Lib.deBruijn64tab.map (fun (n:Nat)=>(.lit (.int .u8 (n:Int)):DataW Unit))=xs.map (·.1):=by
  have:=congrArg Prod.fst hx
  simpa using this
 intro j hj
 have hj':j<64:=hj
 have hfj:=hf j hj'
 have hjx:j<xs.length:=by omega
 rw [List.getElem?_eq_getElem hjx,show Tryz.prog.cellsOf 5=1 by kernel_rfl,Nat.mul_one] at hfj
 obtain ⟨n0,e0,e1,_⟩:=DataW.trod_int Tryz.underlying5 hfj
 have hn:(n0:Int)=((Lib.deBruijn64tab.getD j 0:Nat):Int):=by
  have h1:(Lib.deBruijn64tab.map (fun (n:Nat)=>(.lit (.int .u8 (n:Int)):DataW Unit)))[j]? = (xs.map (·.1))[j]? := by rw [hxs]
  rw [List.getElem?_map,List.getElem?_map,List.getElem?_eq_getElem hjx,List.getElem?_eq_getElem hj,e1] at h1
  simp only [Option.map_some,Option.some.injEq,DataW.lit.injEq,Lit.int.injEq,true_and] at h1
  rw [←h1,List.getD_eq_getElem?_getD,List.getElem?_eq_getElem hj];rfl
 rw [World.var?_cell bt hv j,←hn]
 have h2:(cs.toList.drop j)[0]? = some (.int .u8 n0):=by
  have:((cs.toList.drop j).take 1)[0]? = some (.int .u8 n0):=by rw [e0];rfl
  rwa [List.getElem?_take_of_lt (by omega)] at this
 rw [List.getElem?_drop,Nat.add_zero,Array.getElem?_toList] at h2
 exact h2
theorem wf_maxQ {n:Int}(h:(Lit.int .i64 n).wf=true):n≤9223372036854775807:=by
 have b:IntKind.max .i64=9223372036854775807:=rfl
 simp only [Lit.wf,b,Bool.and_eq_true,decide_eq_true_eq] at h;omega
theorem open_calls {H:Type}{enc:TypeId×Value→H}{W:World}{fuel:Nat}{a:Option Addr}{len cap:Nat}{x:DataW H×List MemPlace}
 (h:DataW.trod enc Tryz.prog W 0 (fun _=>true) true fuel 66 [.slice a len cap]=some x):∃q,CScr W a len q:=by
 rcases Go.Deep.open_slice Tryz.underlying66 h with ⟨hcs,_⟩|⟨ad,l,c,m,k,D,Pl,hcs,_,hl,_,hm,_,hx⟩
 ·simp at hcs
  exact ⟨fun _=>⟨0,0,0,0,0,[],[]⟩,.inl hcs.2.1⟩
 ·simp at hcs
  obtain ⟨rfl,rfl,rfl⟩:=hcs
  by_cases h0:len=0
  ·exact ⟨fun _=>⟨0,0,0,0,0,[],[]⟩,.inl h0⟩
  have hmc:m=cap:=by simpa using hm
  have each:∀i,i<m→∃q:CI,(W.cell? ((ad.add (i*7)).add 0)=some (.int .i64 q.what)∧W.cell? ((ad.add (i*7)).add 1)=some (.int .i64 q.p)∧W.cell? ((ad.add (i*7)).add 2)=some (.int .i64 q.a)∧W.cell? ((ad.add (i*7)).add 3)=some (.int .i64 q.b)∧W.cell? ((ad.add (i*7)).add 4)=some (.int .i64 q.c)∧W.cell? ((ad.add (i*7)).add 5)=some (tx q.s)∧W.cell? ((ad.add (i*7)).add 6)=some (tx q.t))∧q.ok:=by
   intro i hi
   obtain ⟨cs',c1,c2⟩:=hx i hi
   rw [show Tryz.prog.cellsOf 71=7 by kernel_rfl] at c1
   obtain ⟨_,hlen,hcell⟩:=World.cells?_some c1
   obtain ⟨xs,n',_,_,_,hxl,hf⟩:=DataW.trod_struct Tryz.underlying71 c2
   match cs',hlen with
   | [v0,v1,v2,v3,v4,v5,v6],_=>
    have g0:=hf 0 _ rfl
    have g1:=hf 1 _ rfl
    have g2:=hf 2 _ rfl
    have g3:=hf 3 _ rfl
    have g4:=hf 4 _ rfl
    have g5:=hf 5 _ rfl
    have g6:=hf 6 _ rfl
    have l7:xs.length=7:=hxl
    match xs,l7 with
    | [y0,y1,y2,y3,y4,y5,y6],_=>
     obtain ⟨n0,e0,_,_⟩:=DataW.trod_int Tryz.underlying3 g0
     obtain ⟨n1,e1,_,hw1⟩:=DataW.trod_int Tryz.underlying3 g1
     obtain ⟨n2,e2,_,hw2⟩:=DataW.trod_int Tryz.underlying3 g2
     obtain ⟨n3,e3,_,hw3⟩:=DataW.trod_int Tryz.underlying3 g3
     obtain ⟨n4,e4,_,_⟩:=DataW.trod_int Tryz.underlying3 g4
     obtain ⟨s5,e5,_,_⟩:=DataW.trod_string Tryz.underlying9 g5
     obtain ⟨s6,e6,_,_⟩:=DataW.trod_string Tryz.underlying9 g6
     have z:Tryz.prog.cellsOf 3=1:=by kernel_rfl
     have z':Tryz.prog.cellsOf 9=1:=by kernel_rfl
     simp [z] at e0 e1 e2 e3 e4
     simp [z'] at e5 e6
     subst e0 e1 e2 e3 e4 e5 e6
     exact ⟨⟨n0,n1,n2,n3,n4,s5.data.toList,s6.data.toList⟩,⟨hcell 0 (by omega),hcell 1 (by omega),hcell 2 (by omega),hcell 3 (by omega),hcell 4 (by omega),by have:=hcell 5 (by omega);simpa [tx] using this,by have:=hcell 6 (by omega);simpa [tx] using this⟩,⟨hw1,hw2,wf_maxQ hw3⟩⟩
  have first:=each 0 (by omega)
  obtain ⟨q0,⟨f0,_⟩,_⟩:=first
  obtain ⟨blk,off,spot⟩:=ad
  have hspot:spot=none:=by simpa [Addr.add] using World.cell?_spot f0
  subst hspot
  have hb:blk<W.heap.size:=by simpa [Addr.add] using World.block_lt_of_cell? W _ f0
  have all:∃q:Nat→CI,∀i,i<m→(W.cell? (((⟨blk,off,none⟩:Addr).add (i*7)).add 0)=some (.int .i64 (q i).what)∧W.cell? (((⟨blk,off,none⟩:Addr).add (i*7)).add 1)=some (.int .i64 (q i).p)∧W.cell? (((⟨blk,off,none⟩:Addr).add (i*7)).add 2)=some (.int .i64 (q i).a)∧W.cell? (((⟨blk,off,none⟩:Addr).add (i*7)).add 3)=some (.int .i64 (q i).b)∧W.cell? (((⟨blk,off,none⟩:Addr).add (i*7)).add 4)=some (.int .i64 (q i).c)∧W.cell? (((⟨blk,off,none⟩:Addr).add (i*7)).add 5)=some (tx (q i).s)∧W.cell? (((⟨blk,off,none⟩:Addr).add (i*7)).add 6)=some (tx (q i).t))∧(q i).ok:=by
   refine ⟨fun i=>if hi:i<m then Classical.choose (each i hi) else ⟨0,0,0,0,0,[],[]⟩,fun i hi=>?_⟩
   simp only [hi,dif_pos]
   exact Classical.choose_spec (each i hi)
  obtain ⟨q,hq⟩:=all
  refine ⟨q,.inr ⟨blk,off,rfl,hb,fun i hi=>?_⟩⟩
  have:=hq i (by omega)
  simp only [Addr.add_lit,Nat.add_zero] at this
  exact this
end Go.Proofs.YtcfhanoekniaaaaGreatDoor

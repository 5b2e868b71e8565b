/- What the listed variables give a walk, and a contract that is told the world's shape. -/
import Derived.Test.YtcfhanoekniaaaaGreatDoorTell
import Derived.Shelf.Vars
import Derived.HandedShaped
import Derived.Test.YtcfhanoekniaaaaGreatDoorCards
import Derived.Test.YtcfhanoekniaaaaGreatDoorTie
import Derived.ChangeAt
import Derived.ChangeShapes
import Derived.WideShapes
import Derived.OpenShut
import Derived.ChangeOld
import Derived.Deep.Slices
import Derived.ChangeSame
import Derived.ChangeVars
import Derived.JoinedOf
import Derived.RowKit
import Derived.RowKitTokens
import Derived.LaidLaws
import Derived.LaidHandle
import Derived.Stop.Joined
import Derived.SevenTiedAt
import Derived.Test.YtcfhanoekniaaaaGreatDoorZRuns
import Derived.Test.YtcfhanoekniaaaaGreatDoorZAllW
import Derived.Test.YtcfhanoekniaaaaGreatDoorZTalks
import Derived.Deep.LoopGhost
import Derived.Deep.DeepCutAuto
import Derived.Deep.CutBlock
set_option maxHeartbeats 16000000
set_option maxRecDepth 100000
namespace Go.Proofs.YtcfhanoekniaaaaGreatDoor
open Go.ChangeShapes Go.WideShapes Go.ChangeAt Go.RowKit
theorem QY:ownKnob Tryz.prog.godebug=none:=by kernel_rfl
theorem laidOut:laidOutB Tryz.prog=true:=by kernel_rfl
theorem et:Tryz.prog.globalNamed "errors.errorType" = some 0:=by kernel_rfl
theorem UC:((List.range 505).filter fun t=>Tryz.prog.rowNamed t [101,114,114,111,114])=[27]:=by kernel_rfl
theorem Jv:Tryz.prog.types.size=505:=by kernel_rfl
theorem Kw {W:World}(h:handlesMet Tryz.prog [("errors.errorType",Rows.laid_errors_errorType)] W):W.cell? ⟨0,0,none⟩=some fC:=by
 obtain ⟨name,u,ty,e1,e2,e3,e4,e5⟩:=h _ (List.mem_singleton.2 rfl)
 have en:name=[101,114,114,111,114]:=(Option.some.inj e1).symm
 subst en
 have hu:u=350:=Option.some.inj (Eq.trans (Eq.symm e2) (by kernel_rfl))
 subst hu
 have hm:ty∈(List.range 505).filter fun t=>Tryz.prog.rowNamed t [101,114,114,111,114]:=List.mem_filter.2 ⟨List.mem_range.2 (by rw [←Jv];exact e3),e4⟩
 rw [UC] at hm
 obtain rfl:=List.mem_singleton.1 hm
 have hh:typeHandle Tryz.prog 27=.pointer (some ⟨7,27,none⟩):=by kernel_rfl
 rw [hh] at e5
 simpa using World.var?_cell et e5 0
theorem Kc {W:World}(h:W.ShapedOpen Tryz.prog):∃m,W.cell? ⟨4,0,none⟩=some (.int .i64 m):=
 cell_of_shapedOpen_int (t:=3) (zero:=#[.int .i64 0]) h (of_decide_eq_true (by kernel_rfl)) (by kernel_rfl) rfl (by kernel_rfl) (by kernel_rfl) Tryz.underlying3
def vD (d:DataW Unit):Array Value:=match d with
 |.agg l=>(l.flatMap fun x=>match x with
  |.lit (.int k n)=>[Value.int k n]
  |.agg l2=>l2.map fun y=>match y with
   |.lit (.int k n)=>Value.int k n
   |_=>.nilIface
  |_=>[]).toArray
 |_=>#[]
theorem qP {H:Type}{enc:TypeId×Value→H}{a:Assume}{C:Checked}{os:Os}{f:FuncId}{fn:Func}{s:ChangeSpec}{conds:List PathCond}{apart fresh handsOn again:Bool}{X:World→Array Value→Prop}
 (hX:∀(w w':World) (args:Array Value),w.heap=w'.heap→X w args→X w' args)
 (own:ownKnob C.prog.godebug=none) (started:os.Started) (noInit:C.prog.inits.idxOf? f=none) (hfn:C.prog.funcs[f]? = some fn)
 (witness:∃(w:World) (tape:Tape) (i:Input),w.os=os∧(w.forCall tape i).Shaped C.prog∧i.vars=[]∧Input.okWide C.prog (w.forCall tape i) .any w.heap.size f i∧
   ((s.pre enc C.prog fn conds apart (w.forCall tape i).memory i.args∧X (w.forCall tape i).memory i.args)∧sizedMet enc C.prog fn (OpenSpec.ofChange s) apart (w.forCall tape i).memory i.args)∧a.holds C.prog (lone (Frame.enter C.prog f i.args .normal) [] (w.forCall tape i)))
 (contract:∀(W:World) (base:Nat) (args:Array Value) (ds gs:List (DataW H)) (before:List MemPlace),
   (∀(j:Nat) t v,fn.params[j]? = some t→args[j]? = some v→Value.okWide C.prog W .any base t v)→
   DataW.Whole enc C.prog fn.params.toList s.vars apart W args.toList ds gs before→
   X W args→W.ShapedOpen C.prog→
   Calls C.prog f args W fun e W'=>∃v,e=.returned v∧s.post enc C.prog fn apart fresh handsOn again W args v W') :
 ReturnsInHanded a C os f .any (fun w args=>(s.pre enc C.prog fn conds apart w args∧X w args)∧sizedMet enc C.prog fn (OpenSpec.ofChange s) apart w args) (s.post enc C.prog fn apart fresh handsOn again):=by
 refine returnsInHanded_of_calls own started noInit witness ?_
 intro w tape i _ hsh _ hok hpre _
 obtain ⟨_,_,_,fn',hfn',_,_,_,_,hval⟩:=hok
 have e:fn'=fn:=Option.some.inj (hfn'.symm.trans hfn)
 subst e
 obtain ⟨⟨⟨ds,gs,before,hw,hc⟩,hx⟩,hz⟩:=hpre
 have hw':=DataW.Whole.of_heap (w':=w.forCall tape i) (by rfl) hw
 refine (contract (w.forCall tape i) w.heap.size i.args ds gs before hval hw' (hX _ _ _ (by rfl) hx) hsh).mono fun e W' ⟨v,he,hp⟩=>?_
 subst he
 exact ChangeSpec.post_blind hp
def mi (d:DataW Unit):Array Value:=match d with
 |.agg l=>(l.map fun x=>match x with
  |.lit (.int k n)=>Value.int k n
  |_=>.nilIface).toArray
 |_=>#[]
theorem nM {W:World}{x:String×DataW Unit}{r:List (String×DataW Unit)}(h:laidMet Tryz.prog (x :: r) W):laidMet Tryz.prog r W:=by
 obtain ⟨ps,⟨g,t,cs,fuel,p,q,h1,h2,h3,h4,h5,rfl⟩,hn,hk⟩:=h
 exact ⟨q,h5,(List.nodup_append.1 hn).2.1,fun b off hb=>hk b off (List.mem_append_right _ hb)⟩
theorem FT:(Rows.laid_math_bits_deBruijn64tab:DataW Unit)=.agg (Lib.deBruijn64tab.map fun (n:Nat)=>.lit (.int .u8 (n:Int))):=by kernel_rfl
theorem Fz {W:World}{r:List (String×DataW Unit)}{name:String}(bt:Tryz.prog.globalNamed name=some 2) (h:laidMet Tryz.prog ((name,Rows.laid_math_bits_deBruijn64tab) :: r) W):lZ W:=by
 obtain ⟨ps,⟨g,t,cs,fuel,p,q,hg,ht,hv,htr,_,_⟩,_,_⟩:=h
 obtain rfl:429=t:=Option.some.inj (Eq.trans (Eq.symm (show (Tryz.prog.globals[2]?).map (·.type)=some 429 by kernel_rfl)) (by rw [←Option.some.inj (bt.symm.trans hg)] at ht;exact ht))
 rw [FT] at htr
 obtain ⟨xs,m,_,hx,hlen,hxl,hf⟩:=DataW.trod_array Tryz.underlying429 htr
 have hxs:Lib.deBruijn64tab.map (fun (n:Nat)=>(.lit (.int .u8 (n:Int)):DataW Unit))=xs.map (·.1):=by
  have:=congrArg Prod.fst hx
  simpa using this
 intro j hj
 have hj':j<64:=hj
 have hfj:=hf j hj'
 have XM:j<xs.length:=by omega
 rw [List.getElem?_eq_getElem XM,show Tryz.prog.cellsOf 5=1 by kernel_rfl,Nat.mul_one] at hfj
 obtain ⟨n0,e0,e1,_⟩:=DataW.trod_int Tryz.underlying5 hfj
 have hn:(n0:Int)=((Lib.deBruijn64tab.getD j 0:Nat):Int):=by
  have h1:(Lib.deBruijn64tab.map (fun (n:Nat)=>(.lit (.int .u8 (n:Int)):DataW Unit)))[j]? = (xs.map (·.1))[j]? := by rw [hxs]
  rw [List.getElem?_map,List.getElem?_map,List.getElem?_eq_getElem XM,List.getElem?_eq_getElem hj,e1] at h1
  simp only [Option.map_some,Option.some.injEq,DataW.lit.injEq,Lit.int.injEq,true_and] at h1
  rw [←h1,List.getD_eq_getElem?_getD,List.getElem?_eq_getElem hj];rfl
 rw [World.var?_cell bt hv j,←hn]
 have h2:(cs.toList.drop j)[0]? = some (.int .u8 n0):=by
  have:((cs.toList.drop j).take 1)[0]? = some (.int .u8 n0):=by rw [e0];rfl
  rwa [List.getElem?_take_of_lt (by omega)] at this
 rw [List.getElem?_drop,Nat.add_zero,Array.getElem?_toList] at h2
 exact h2
theorem Ql {n:Int}(h:(Lit.int .i64 n).wf=true):n≤9223372036854775807:=by
 have b:IntKind.max .i64=9223372036854775807:=rfl
 simp only [Lit.wf,b,Bool.and_eq_true,decide_eq_true_eq] at h;omega
theorem uJ {H:Type}{enc:TypeId×Value→H}{W:World}{fuel:Nat}{a:Option Addr}{len cap:Nat}{x:DataW H×List MemPlace}
 (h:DataW.trod enc Tryz.prog W 0 (fun _=>true) true fuel 66 [.slice a len cap]=some x):∃q,vR W a len q∧∀i,i<len→(Lit.int .i64 (q i).c).wf=true:=by
 rcases Go.Deep.open_slice Tryz.underlying66 h with ⟨hcs,_⟩|⟨ad,l,c,m,k,D,Pl,hcs,_,hl,_,hm,_,hx⟩
 ·simp at hcs
  exact ⟨fun _=>⟨0,0,0,0,0,[],[]⟩,.inl hcs.2.1,fun i hi=>rfl⟩
 ·simp at hcs
  obtain ⟨rfl,rfl,rfl⟩:=hcs
  by_cases h0:len=0
  ·exact ⟨fun _=>⟨0,0,0,0,0,[],[]⟩,.inl h0,fun i hi=>rfl⟩
  have hmc:m=cap:=by simpa using hm
  have each:∀i,i<m→∃q:CI,(W.cell? ((ad.add (i*7)).add 0)=some (.int .i64 q.what)∧W.cell? ((ad.add (i*7)).add 1)=some (.int .i64 q.p)∧W.cell? ((ad.add (i*7)).add 2)=some (.int .i64 q.a)∧W.cell? ((ad.add (i*7)).add 3)=some (.int .i64 q.b)∧W.cell? ((ad.add (i*7)).add 4)=some (.int .i64 q.c)∧W.cell? ((ad.add (i*7)).add 5)=some (tx q.s)∧W.cell? ((ad.add (i*7)).add 6)=some (tx q.t))∧q.ok∧(Lit.int .i64 q.c).wf=true:=by
   intro i hi
   obtain ⟨cs',c1,c2⟩:=hx i hi
   rw [show Tryz.prog.cellsOf 71=7 by kernel_rfl] at c1
   obtain ⟨_,hlen,hcell⟩:=World.cells?_some c1
   obtain ⟨xs,n',_,_,_,hxl,hf⟩:=DataW.trod_struct Tryz.underlying71 c2
   match cs',hlen with
   | [v0,v1,v2,v3,v4,v5,v6],_=>
    have g0:=hf 0 _ rfl
    have g1:=hf 1 _ rfl
    have g2:=hf 2 _ rfl
    have g3:=hf 3 _ rfl
    have g4:=hf 4 _ rfl
    have g5:=hf 5 _ rfl
    have g6:=hf 6 _ rfl
    have l7:xs.length=7:=hxl
    match xs,l7 with
    | [y0,y1,y2,y3,y4,y5,y6],_=>
     obtain ⟨n0,e0,_,_⟩:=DataW.trod_int Tryz.underlying3 g0
     obtain ⟨n1,e1,_,hw1⟩:=DataW.trod_int Tryz.underlying3 g1
     obtain ⟨n2,e2,_,hw2⟩:=DataW.trod_int Tryz.underlying3 g2
     obtain ⟨n3,e3,_,hw3⟩:=DataW.trod_int Tryz.underlying3 g3
     obtain ⟨n4,e4,_,hw4⟩:=DataW.trod_int Tryz.underlying3 g4
     obtain ⟨s5,e5,_,_⟩:=DataW.trod_string Tryz.underlying9 g5
     obtain ⟨s6,e6,_,_⟩:=DataW.trod_string Tryz.underlying9 g6
     have z:Tryz.prog.cellsOf 3=1:=by kernel_rfl
     have z':Tryz.prog.cellsOf 9=1:=by kernel_rfl
     simp [z] at e0 e1 e2 e3 e4
     simp [z'] at e5 e6
     subst e0 e1 e2 e3 e4 e5 e6
     exact ⟨⟨n0,n1,n2,n3,n4,s5.data.toList,s6.data.toList⟩,⟨hcell 0 (by omega),hcell 1 (by omega),hcell 2 (by omega),hcell 3 (by omega),hcell 4 (by omega),by have:=hcell 5 (by omega);simpa [tx] using this,by have:=hcell 6 (by omega);simpa [tx] using this⟩,⟨hw1,hw2,Ql hw3⟩,hw4⟩
  have first:=each 0 (by omega)
  obtain ⟨q0,⟨f0,_⟩,_,_⟩:=first
  obtain ⟨blk,off,spot⟩:=ad
  have hspot:spot=none:=by simpa [Addr.add] using World.cell?_spot f0
  subst hspot
  have hb:blk<W.heap.size:=by simpa [Addr.add] using World.block_lt_of_cell? W _ f0
  have all:∃q:Nat→CI,∀i,i<m→(W.cell? (((⟨blk,off,none⟩:Addr).add (i*7)).add 0)=some (.int .i64 (q i).what)∧W.cell? (((⟨blk,off,none⟩:Addr).add (i*7)).add 1)=some (.int .i64 (q i).p)∧W.cell? (((⟨blk,off,none⟩:Addr).add (i*7)).add 2)=some (.int .i64 (q i).a)∧W.cell? (((⟨blk,off,none⟩:Addr).add (i*7)).add 3)=some (.int .i64 (q i).b)∧W.cell? (((⟨blk,off,none⟩:Addr).add (i*7)).add 4)=some (.int .i64 (q i).c)∧W.cell? (((⟨blk,off,none⟩:Addr).add (i*7)).add 5)=some (tx (q i).s)∧W.cell? (((⟨blk,off,none⟩:Addr).add (i*7)).add 6)=some (tx (q i).t))∧(q i).ok∧(Lit.int .i64 (q i).c).wf=true:=by
   refine ⟨fun i=>if hi:i<m then Classical.choose (each i hi) else ⟨0,0,0,0,0,[],[]⟩,fun i hi=>?_⟩
   simp only [hi,dif_pos]
   exact Classical.choose_spec (each i hi)
  obtain ⟨q,hq⟩:=all
  refine ⟨q,.inr ⟨blk,off,rfl,hb,fun i hi=>?_⟩,fun i hi=>(hq i (by omega)).2.2⟩
  have:=hq i (by omega)
  simp only [Addr.add_lit,Nat.add_zero] at this
  exact ⟨this.1,this.2.1⟩
end Go.Proofs.YtcfhanoekniaaaaGreatDoor
namespace Go.Proofs.YtcfhanoekniaaaaGreatDoor
section
variable {S S':KS}{p a b c k v:Int}{s t:List UInt8}{o:Ow}
theorem fD.n {went:List Int}{er:Int}(r:fD p a k v S went er S'):S'.n=S.n:=by
 induction r with
 |done ho h h12=>rfl
 |nobody ho h hv=>rfl
 |self ho h hv he=>rfl
 |goes ho h hv he hx h1 hne r ih=>exact ih
theorem aX.n {W e:Int}(r:aX S p a b c s t W e S'):S'.n=S.n:=by
 cases r with
 |nobody ho hW=>rfl
 |other hW=>rfl
 |full hW ho hc=>rfl
 |fork hW ho hc=>rfl
 |exit ho=>unfold oz;split<;>rfl
 |exec ho=>rfl
 |wait ho=>rfl
 |map hW ho=>unfold jA;split<;>rfl
 |vS ho=>rfl
 |store hW ho r=>exact r.n
 |file hW ho hn hk r=>
  rcases r with ⟨_,_,_,rfl⟩|⟨_,_,_,_,rfl⟩<;>rfl
 |pipe ho hn r=>
  rcases r with ⟨_,_,_,_,rfl⟩|⟨_,_,_,_,rfl⟩<;>rfl
 |dup ho=>unfold rf;split<;>rfl
 |dup2 ho=>unfold iH;split<;>rfl
 |close ho=>rfl
 |write ho=>unfold jb;split<;>rfl
 |read ho=>rfl
 |limit ho=>rfl
 |kill ho=>rfl
 |signal ho h1 hs=>rfl
 |quiet ho hs=>rfl
 |first ho h1=>rfl
 |GN ho hk r=>rfl
 |unlink ho=>rfl
 |rename ho=>rfl
 |o6 ho=>rfl
 |mark yes ho=>rfl
 |AX ho=>unfold uC;split<;>rfl
end
end Go.Proofs.YtcfhanoekniaaaaGreatDoor
namespace Go.Proofs.YtcfhanoekniaaaaGreatDoor
open Go.RowKit Go.Maps
theorem G8 {n:Int}(h:(Lit.int .i64 n).wf=true):-9223372036854775808≤n∧n≤9223372036854775807:=by
 have b:IntKind.max .i64=9223372036854775807:=rfl
 have b2:IntKind.min .i64=-9223372036854775808:=rfl
 simp only [Lit.wf,b,b2,Bool.and_eq_true,decide_eq_true_eq] at h;omega
section
variable {w0 w w':World}{m:Int}{kb q:Nat}{C:LW}{S S':KS}{p a b c:Int}{s t:List UInt8}
theorem KC.nums (h:KC w0 w m kb C S q):∃no nt,qR S.D.E no∧di S.D.T nt∧no<1000∧nt<1000:=by
 obtain ⟨H,A,e,k,_⟩:=h
 obtain ⟨no,hno⟩:=k.1.vN
 obtain ⟨nt,hnt⟩:=k.1.Mf
 refine ⟨no,nt,hno,hnt,?_,?_⟩
 ·have h1:=hno.few k.1.inv.core.ja.n0 k.1.inv.core.ja.e
  have h2:=k.1.inv.core.ja.n1
  omega
 ·obtain ⟨ks,h1,rfl,h3⟩:=hnt
  have:=nk (b:=(List.range 64).map (fun i:Nat=>(i:Int))) h1 (fun x hx=>by
   have h4:=k.1.inv.core.lv.toTrOk.key x ((h3 x).1 hx)
   exact List.mem_map.2 ⟨x.toNat,List.mem_range.2 (by omega),by omega⟩)
  simp only [List.length_map,List.length_range] at this
  omega
end
theorem KC.apart {w0 w:World}{m:Int}{kb q:Nat}{C:LW}{S S':KS}{p a b c:Int}{s t:List UInt8}{W e:Int}(h:KC w0 w m kb C S q) (r:aX S p a b c s t W e S') (hW:¬(W<3∨W=4∨W=20∨W=21)) (hr:iN S'=iN S):Vp S S' p:=by
 obtain ⟨_,_,_,k,_⟩:=h
 exact r.apart k hW hr
def Qd (x:Nat) (A:Array Value):LW:=(List.range A.size).map fun i=>(x,i,A.getD i .nilIface)
theorem ku {x i:Nat}{A:Array Value}{v:Value}(h:A[i]? = some v):(x,i,v)∈Qd x A:=by
 obtain ⟨hi,e⟩:=Array.getElem?_eq_some_iff.1 h
 unfold Qd
 rw [List.mem_map]
 refine ⟨i,List.mem_range.2 hi,?_⟩
 rw [Array.getD_eq_getD_getElem?,h];rfl
theorem KC.Vz {w0 w w':World}{m:Int}{kb q:Nat}{C:LW}{S:KS}(h:KC w0 w m kb C S q) (b:Below w.heap.size w w') {x:Nat}(hx:w.heap.size≤x) {A:Array Value}{ty:TypeId}{fr:Nat×Nat}(hr:w'.heap[x]? = some (.cells A ty fr)):KC w0 w' m kb (Qd x A ++ C) S q:=by
 refine h.add b fun y hy=>?_
 unfold Qd at hy
 rw [List.mem_map] at hy
 obtain ⟨i,hi,rfl⟩:=hy
 have hi:=List.mem_range.1 hi
 refine ⟨?_,hx⟩
 show w'.cell? ⟨x,i,none⟩=_
 rw [cell_of_row w' x i _ _ _ hr,Array.getD_eq_getD_getElem?,Array.getElem?_eq_getElem hi]
 rfl
theorem Gt (n:Int) (Pp:Option Addr) (jh uX:Nat) (q1:Nat→CI) (LZ:Option Addr) (iM cap2:Nat) (q2:Nat→CI) (pid:Int) (w:World) (hsc1:vR w Pp jh q1) (hsc2:vR w LZ iM q2) (h:¬(nP q1 jh∧nP q2 iM)) :
 Calls Tryz.prog 7 #[.int .i64 n,.slice Pp jh uX,.slice LZ iM cap2,.int .i64 pid] w fun e w'=>e=.returned (.bool true)∧Below w.heap.size w w':=by
 by_cases hS:nP q1 jh
 ·have hC:∀(x:Value) (b:Bool),(x=.slice Pp jh uX∧b=true)∨(x=.slice LZ iM cap2∧b=false)→Calls Tryz.prog 31 #[x] w fun e w'=>e=.returned (.bool b)∧w'=w:=fun x b z=>by
   rcases z with ⟨rfl,rfl⟩|⟨rfl,rfl⟩
   ·exact um Pp jh uX q1 w hsc1 hS
   ·exact DU LZ iM cap2 q2 w hsc2 (fun z=>h ⟨hS,z⟩)
  clear hsc1 hsc2 h hS
  go_enter Tryz.func7,Tryz.ntmps7
  go_wp2_with (go_at_call 31;refine (hC _ _ (by first|exact .inl ⟨rfl,rfl⟩|exact .inr ⟨rfl,rfl⟩)).mono ?_;rintro e w1 ⟨rfl,hw1⟩;subst w1)
  go_ret
  exact ⟨rfl,Below.refl _ _⟩
 ·have hC1:=DU Pp jh uX q1 w hsc1 hS
  clear hsc1 hsc2 h hS
  go_enter Tryz.func7,Tryz.ntmps7
  go_wp2_with (go_at_call 31;refine hC1.mono ?_;rintro e w1 ⟨rfl,hw1⟩;subst w1)
  go_ret
  exact ⟨rfl,Below.refl _ _⟩
theorem Ez (n:Int) (Pp:Option Addr) (jh uX:Nat) (q1:Nat→CI) (LZ:Option Addr) (iM cap2:Nat) (q2:Nat→CI) (pid:Int) (w:World) (hsc1:vR w Pp jh q1) (WS:∀i,i<jh→(Lit.int .i64 (q1 i).c).wf=true) (hsc2:vR w LZ iM q2) (hcw2:∀i,i<iM→(Lit.int .i64 (q2 i).c).wf=true) (hS1:nP q1 jh) (hS2:nP q2 iM) (m:Int) (hm:w.cell? ⟨4,0,none⟩=some (.int .i64 m)) (he:w.cell? ⟨0,0,none⟩=some fC) (ht:lZ w) (hp:Pow w) :
 Calls Tryz.prog 7 #[.int .i64 n,.slice Pp jh uX,.slice LZ iM cap2,.int .i64 pid] w fun e w'=>e=.returned (.bool true)∧Below w.heap.size w w':=by
 have hC:∀x:Value,x=.slice Pp jh uX∨x=.slice LZ iM cap2→Calls Tryz.prog 31 #[x] w fun e w'=>e=.returned (.bool true)∧w'=w:=fun x z=>by
  rcases z with rfl|rfl
  ·exact um Pp jh uX q1 w hsc1 hS1
  ·exact um LZ iM cap2 q2 w hsc2 hS2
 have hl1:jh≤40:=hS1.1
 have hl2:iM≤40:=hS2.1
 have hK:=Ru (ok:=true) w hm he ⟨ht.lt,fun _=>ht⟩
 obtain ⟨n8,Yu,hp1⟩:=yX n 60 (by omega) (by omega)
 have hF:=fun V (b:Below w.heap.size w V)=>UR w V b (8+n8) (by omega) (by omega) hm he ht
 have hn9:((8+n8:Nat):Int)=8+(n8:Int):=by omega
 rw [hn9] at hF
 clear hn9
 have hSn:Aside ((gX (8+n8)).n<100):=(show 8+n8<100 by omega)
 have hSW:Aside (lN (gX (8+n8)).W):=(show lN (gX (8+n8)).W from fun i j=>⟨by show (-9223372036854775808:Int)≤0;omega,by show (0:Int)≤9223372036854775807;omega⟩)
 clear hm he ht
 go_enter Tryz.func7,Tryz.ntmps7
 go_upto_region 8 with (first
  |(go_at_call 31;refine (hC _ (by first|exact .inl rfl|exact .inr rfl)).mono ?_;rintro e w1 ⟨rfl,hw1⟩;subst w1)
  |(go_at_call 11;refine hK.mono ?_;rintro e w1 ⟨rfl,b1⟩;have c0:=hF _ b1)
  |(go_at_call 18;refine (hp1 _).mono ?_;rintro e w3 ⟨rfl,hw3⟩;subst w3)
  |(go_at_call 12;refine c0.mono ?_;rintro e w2 ⟨kb,rfl,k2⟩))
 clear c0 hF hK hC hp1 b1
 generalize gX (8+n8)=S1 at *
 go_wp2_with fail
 go_loopg [11] jh (fun g s11 wx=>∃(i:Nat) (S:KS),Aside (i+g=jh)∧s11=.int .i64 (i:Int)∧KC w wx m kb [] S i∧Aside (S.n<100)∧Aside (lN S.W))
 case atStart=>exact ⟨0,S1,(show 0+jh=jh by omega),rfl,k2,hSn,hSW⟩
 case round=>
  clear k2 hSn hSW
  obtain ⟨i,S,HI,rfl,k,HN,HW⟩:=hrel
  have hb:=k.LV
  by_cases hlt:(i:Int)<(jh:Int)
  ·rcases hsc1.keep hb with h0|⟨blk,off,rfl,hbl,hss⟩
   ·exfalso;omega
   obtain ⟨⟨c0,c1,c2,c3,c4,c5,c6⟩,hok⟩:=hss i (by omega)
   have hsl:=hS1.2 i (by omega)
   have Ub:Aside _:=G8 (WS i (by omega))
   have hP:=k.call (by omega) (q1 i) hok hsl.1 hsl.2
   clear hss hok hsl hb
   generalize (q1 i).what=W at *
   generalize (q1 i).p=p at *
   generalize (q1 i).a=a at *
   generalize (q1 i).b=b at *
   generalize (q1 i).c=c at *
   generalize (q1 i).s=s at *
   generalize (q1 i).t=t at *
   go_wp2_with (go_at_call 33;refine hP.mono ?_;rintro e w5 ⟨er,S',rfl,hR,k5⟩)
   go_roundg (gk-1)
   case measure=>have:=HI.out;omega
   case rel=>exact ⟨i+1,S',(show i+1+(gk-1)=jh by have:=HI.out;omega),by go_num,k5,(show S'.n<100 by rw [hR.n];exact HN.out),hR.I4 HW.out Ub.out⟩
  ·have adw:i≤40:=by have:=HI.out;omega
   have Pm:=k.jg
   have hL1:1≤(ah S.P).length:=by
    obtain ⟨R,hR⟩:=NQ k.PD
    rw [hR];simp
   have Ue:=k.Mv
   clear hsc1 hS1 hb WS
   go_upto_region 13 with (go_at_call 34;refine Pm.mono ?_;rintro e w6 ⟨bp,cp,rfl,hcp,k6,b6⟩)
   have HM:Aside (∀j (hj:j<(ah S.P).length),(bp,j,Value.int .i64 (ah S.P)[j])∈lJ bp (ah S.P) ++ []):=fun j hj=>List.mem_append_left _ (qI hj)
   have WY:Aside (∀x∈ah S.P,1≤x∧x≤24):=fun x hx=>⟨(k6.GM hx).1,(k6.GM hx).2.1⟩
   clear Pm b6 k
   obtain ⟨r0,hr0,hp0⟩:=yX pid (ah S.P).length hL1 (by omega)
   generalize TN:lJ bp (ah S.P) ++ []=C9 at *
   clear TN
   generalize ah S.P=L at *
   have cr:=k6.at (HM.out r0 hr0)
   have Zt:=WY.out L[r0] (List.getElem_mem hr0)
   have hcr:(r0:Int)<(cp:Int):=by omega
   have ZC:(r0:Int)<(L.length:Int):=by omega
   generalize L[r0]=P9 at *
   go_upto_region 14 with (go_at_call 18;refine (hp0 _).mono ?_;rintro e w3 ⟨rfl,hw3⟩;subst w3)
   clear cr hp0 hcr ZC HM WY hL1 Ue hcp hr0 HI hlt
   have hpw:(Lit.int .i64 P9).wf=true:=EL Zt
   go_wp2_with fail
   go_loopg [13,14,15,16] iM (fun g s13 _ _ _ wx=>∃(j:Nat) (S:KS),Aside (j+g=iM)∧s13=.int .i64 (j:Int)∧KC w wx m kb C9 S (i+j)∧Aside (S.n<100)∧Aside (lN S.W))
   case atStart=>exact ⟨0,S,(show 0+iM=iM by omega),rfl,k6,HN,HW⟩
   case round=>
    clear k6 HN HW S
    obtain ⟨j,S,HJ,rfl,k,HN,HW⟩:=hrel
    have hb:=k.LV
    by_cases hlt:(j:Int)<(iM:Int)
    ·rcases hsc2.keep hb with h0|⟨blk,off,rfl,hbl,hss⟩
     ·exfalso;omega
     obtain ⟨⟨c0,c1,c2,c3,c4,c5,c6⟩,hok⟩:=hss j (by omega)
     have hsl:Aside ((q2 j).s.length≤100∧(q2 j).t.length≤60):=hS2.2 j (by omega)
     have Ub:Aside (-9223372036854775808≤(q2 j).c∧(q2 j).c≤9223372036854775807):=G8 (hcw2 j (by omega))
     have hoa:Aside ((Lit.int .i64 (q2 j).a).wf=true):=hok.a
     have Yt:Aside ((q2 j).b≤9223372036854775807):=hok.b
     clear hss hok hb
     generalize (q2 j).what=W at *
     generalize (q2 j).p=p at *
     generalize (q2 j).a=a at *
     generalize (q2 j).b=b at *
     generalize (q2 j).c=c at *
     generalize (q2 j).s=s at *
     generalize (q2 j).t=t at *
     go_upto_region 18 with fail
     have bV:Below wr.heap.size wr (wr.alloc (.cells #[.int .i64 W,.int .i64 p,.int .i64 a,.int .i64 b,.int .i64 c,tx s,tx t] 71)):=(Below.refl _ _).alloc (Nat.le_refl _) _
     have hn1:=mo wr (.cells #[.int .i64 W,.int .i64 p,.int .i64 a,.int .i64 b,.int .i64 c,tx s,tx t] 71)
     obtain ⟨V,hV⟩:∃V,wr.alloc (.cells #[.int .i64 W,.int .i64 p,.int .i64 a,.int .i64 b,.int .i64 c,tx s,tx t] 71)=V:=⟨_,rfl⟩
     obtain ⟨x0,hx0⟩:∃x0,wr.heap.size=x0:=⟨_,rfl⟩
     have VX:wr.heap.size≤x0:=Nat.le_of_eq hx0
     rw [hV] at bV hn1 ⊢
     rw [hx0] at hn1 ⊢
     have d0:V.cell? ⟨x0,0,none⟩=some (.int .i64 W):=by rw [cell_of_row V x0 0 _ _ _ hn1];rfl
     have d1:V.cell? ⟨x0,1,none⟩=some (.int .i64 p):=by rw [cell_of_row V x0 1 _ _ _ hn1];rfl
     have f1:V.frozen? ⟨x0,1,none⟩=false:=by simp [World.frozen?,hn1]
     clear c0 c1 c2 c3 c4 c5 c6 hV hx0
     have kV:=k.below bV
     by_cases w3:W<3
     ·go_wp2_with fail
      go_roundg (gk-1)
      case measure=>have:=HJ.out;omega
      case rel=>exact ⟨j+1,S,(show j+1+(gk-1)=iM by have:=HJ.out;omega),by go_num,kV.more (by omega),HN,HW⟩
     by_cases w4:W=4
     ·subst w4
      go_wp2_with fail
      go_roundg (gk-1)
      case measure=>have:=HJ.out;omega
      case rel=>exact ⟨j+1,S,(show j+1+(gk-1)=iM by have:=HJ.out;omega),by go_num,kV.more (by omega),HN,HW⟩
     by_cases Yg:W=20
     ·subst Yg
      go_wp2_with fail
      go_roundg (gk-1)
      case measure=>have:=HJ.out;omega
      case rel=>exact ⟨j+1,S,(show j+1+(gk-1)=iM by have:=HJ.out;omega),by go_num,kV.more (by omega),HN,HW⟩
     by_cases Yf:W=21
     ·subst Yf
      go_wp2_with fail
      go_roundg (gk-1)
      case measure=>have:=HJ.out;omega
      case rel=>exact ⟨j+1,S,(show j+1+(gk-1)=iM by have:=HJ.out;omega),by go_num,kV.more (by omega),HN,HW⟩
     have HNW:Aside (¬(W<3∨W=4∨W=20∨W=21)):=fun z=>by omega
     have x4:(W == 4)=false:=by simpa using w4
     have x20:(W == 20)=false:=by simpa using Yg
     have x21:(W == 21)=false:=by simpa using Yf
     clear w4 Yg Yf kV
     go_upto_region 20 with fail
     have b2:Below wr.heap.size wr (V.setCell ⟨x0,1,none⟩ (.int .i64 P9)):=bV.setCell VX _
     have hn2:=heap_setCell_same V x0 1 (.int .i64 P9) _ _ _ hn1
     obtain ⟨V2,hV2⟩:∃V2,V.setCell ⟨x0,1,none⟩ (.int .i64 P9)=V2:=⟨_,rfl⟩
     rw [hV2] at b2 hn2 ⊢
     obtain ⟨EK,k2,hm0,hm1,hm2,hm3,V6,hm5,hm6,hsub⟩:∃EK,KC w V2 m kb EK S (i+j)∧(x0,0,Value.int .i64 W)∈EK∧(x0,1,Value.int .i64 P9)∈EK∧(x0,2,Value.int .i64 a)∈EK∧(x0,3,Value.int .i64 b)∈EK∧(x0,4,Value.int .i64 c)∈EK∧(x0,5,tx s)∈EK∧(x0,6,tx t)∈EK∧∀y∈C9,y∈EK:=
      ⟨_,k.Vz b2 VX hn2,List.mem_append_left _ (ku rfl),List.mem_append_left _ (ku rfl),List.mem_append_left _ (ku rfl),List.mem_append_left _ (ku rfl),List.mem_append_left _ (ku rfl),List.mem_append_left _ (ku rfl),List.mem_append_left _ (ku rfl),fun y hy=>List.mem_append_right _ hy⟩
     have HC:Aside (∀V S' q,KC w V m kb EK S' q→V.cell? ⟨x0,0,none⟩=some (.int .i64 W)∧V.cell? ⟨x0,1,none⟩=some (.int .i64 P9)∧V.cell? ⟨x0,2,none⟩=some (.int .i64 a)∧V.cell? ⟨x0,3,none⟩=some (.int .i64 b)∧V.cell? ⟨x0,4,none⟩=some (.int .i64 c)∧V.cell? ⟨x0,5,none⟩=some (tx s)∧V.cell? ⟨x0,6,none⟩=some (tx t)):=fun V S' q kV=>⟨kV.at hm0,kV.at hm1,kV.at hm2,kV.at hm3,kV.at V6,kV.at hm5,kV.at hm6⟩
     have HB:Aside (∀V S' q,KC w V m kb EK S' q→KC w V m kb C9 S' q):=fun V S' q kV=>kV.sub hsub
     obtain ⟨no,nt,hno,hnt,WM,WK⟩:=k2.nums
     have hA:=k2.all HW.out (hp.below k2.LV) hno hnt P9 HN.out WM WK
     have XT:=fun V (kV:KC w V m kb EK S (i+j))=>kV.runs
     have hP:=fun V (kV:KC w V m kb EK S (i+j))=>kV.call (by omega) ⟨W,P9,a,b,c,s,t⟩ ⟨hpw,hoa.out,Yt.out⟩ hsl.out.1 hsl.out.2
     have HV:Aside (∀er S',aX S P9 a b c s t W er S'→iN S'=iN S→∀no' VI,allT S' no' VI P9=allT S no nt P9):=fun er S' r e no' VI=>(k.apart r HNW.out e).all (by omega) no' VI
     generalize allT S no nt P9=X at *
     obtain ⟨r9,hr9⟩:∃r9,iN S=r9:=⟨_,rfl⟩
     simp only [hr9] at XT HV
     clear hr9 bV hn1 hn2 hV2 d0 d1 f1 b2 hm0 hm1 hm2 hm3 V6 hm5 hm6 hsub hno hnt WM WK HNW VX
     go_upto_region 22 with (first
      |(go_at_call 32;refine hA.mono ?_;rintro e w7 ⟨rfl,b7⟩;have k7:=k2.below b7;have YI:=XT _ k7)
      |(go_at_call 40;refine YI.mono ?_;rintro e w8 ⟨rfl,b8⟩;have k8:=k7.below b8;have YJ:=hP _ k8;obtain ⟨e0,e1,e2,e3,e4,e5,e6⟩:=HC.out _ _ _ k8)
      |(go_at_call 33;refine YJ.mono ?_;rintro e w9 ⟨er,S',rfl,hR,k9⟩))
     have VO:=k9.runs
     have HN':Aside (S'.n<100):=by show S'.n<100;rw [hR.n];exact HN.out
     have HW':Aside (lN S'.W):=hR.I4 HW.out Ub.out
     by_cases hE:iN S'=r9
     ·obtain ⟨no',VI,hno',WL,Tq,Tn⟩:=k9.nums
      have Pn:=fun V (kV:KC w V m kb EK S' (i+j+1))=>kV.all HW'.out (hp.below kV.LV) hno' WL P9 HN'.out Tq Tn
      simp only [HV.out er S' hR hE] at Pn
      rw [hE] at VO
      clear hE hno' WL Tq Tn HV hR hP YJ hA YI XT k k2 k7 k8 b7 b8 e0 e1 e2 e3 e4 e5 e6 HN HW
      go_wp2_with (first
       |(go_at_call 40;refine VO.mono ?_;rintro e w10 ⟨rfl,b10⟩;have k10:=k9.below b10;have ZM:=Pn _ k10)
       |(go_at_call 32;refine ZM.mono ?_;rintro e w11 ⟨rfl,b11⟩;have k11:=k10.below b11))
      go_roundg (gk-1)
      case measure=>have:=HJ.out;omega
      case rel=>exact ⟨j+1,S',(show j+1+(gk-1)=iM by have:=HJ.out;omega),by go_num,HB.out _ _ _ k11,HN',HW'⟩
     ·obtain ⟨r2,hr2⟩:∃r2,iN S'=r2:=⟨_,rfl⟩
      rw [hr2] at hE VO
      have hne:((r2:Int) == (r9:Int))=false:=by simp;omega
      clear hr2 hE HV hR hP YJ hA YI XT k k2 k7 k8 b7 b8 e0 e1 e2 e3 e4 e5 e6 HN HW
      go_wp2_with (go_at_call 40;refine VO.mono ?_;rintro e w10 ⟨rfl,b10⟩;have k10:=k9.below b10)
      go_ret
      exact ⟨rfl,k10.LV⟩
    ·go_wp2_with fail
     go_ret
     exact ⟨rfl,hb⟩
end Go.Proofs.YtcfhanoekniaaaaGreatDoor
namespace Go.Proofs.YtcfhanoekniaaaaGreatDoor
open Go.ChangeShapes Go.WideShapes Go.ChangeAt Go.RowKit
def ik:List (String×DataW Unit):=Rows.kernelApartRow.laid.filter fun x=>x.2.handleName?.isNone
theorem oP {W:World}(h:laidMetH Tryz.prog Rows.kernelApartRow.laid W):laidMet Tryz.prog ik W∧handlesMet Tryz.prog [("errors.errorType",Rows.laid_errors_errorType)] W:=h
def uo:String:=((ik.drop 1).map (·.1)).headD ""
theorem Cg:Tryz.prog.globalNamed uo=some 2:=by kernel_rfl
theorem Ce:ik=ik.headD ("",.agg []) :: (uo,Rows.laid_math_bits_deBruijn64tab) :: ik.drop 2:=by kernel_rfl
theorem Lj {W:World}(h:laidMetH Tryz.prog Rows.kernelApartRow.laid W):lZ W:=by
 have h1:=(oP h).1
 rw [Ce] at h1
 exact Fz Cg (nM h1)
theorem Ey:ik=ik.headD ("",.agg []) :: (uo,Rows.laid_math_bits_deBruijn64tab) :: (Be,Lib.tabData .u64 Lib.pow10Tab) :: ik.drop 3:=by kernel_rfl
theorem Lp {W:World}(h:laidMetH Tryz.prog Rows.kernelApartRow.laid W):Pow W:=by
 have h1:=(oP h).1
 rw [Ey] at h1
 exact Lib.tabIs_of_head zt (t:=441) (e:=399) (n:=20) (by kernel_rfl) Tryz.underlying441 Tryz.underlying399 (by kernel_rfl) (by kernel_rfl) (nM (nM h1))
theorem Lr (os:Os) (args:Array Value):laidMetH Tryz.prog Rows.kernelApartRow.laid (({ World.holding Tryz.prog os ⟨#[],#[],[]⟩ with heap:=((((((World.holding Tryz.prog os ⟨#[],#[],[]⟩).heap.modify 0 fun | .cells _ t frozen=>.cells #[fC] t frozen|o=>o).modify 3 fun | .cells _ t frozen=>.cells (mi Rows.laid_internal_strconv_uint64pow10) t frozen|o=>o).modify 1 fun | .cells _ t frozen=>.cells (mi Rows.laid_math_bits_deBruijn32tab) t frozen|o=>o).modify 2 fun | .cells _ t frozen=>.cells (mi Rows.laid_math_bits_deBruijn64tab) t frozen|o=>o).modify 6 fun | .cells _ t frozen=>.cells (vD Rows.laid_unicode_utf8_acceptRanges) t frozen|o=>o).modify 5 fun | .cells _ t frozen=>.cells (vD Rows.laid_unicode_utf8_first) t frozen|o=>o }:World).forCall (fun _ _=>0) ⟨#[],args,[]⟩).memory:=
 laidMetH_of_parts (laidMet_of_run' 8 (by kernel_rfl) (by kernel_rfl)) (by kernel_rfl)
theorem Cf (os:Os) (started:os.Started) (H:Type) (enc:TypeId×Value→H) :
 ReturnsInHanded {} Tryz.checked os 7 .any (fun w args=>(Rows.kernelApartSpec.pre enc Tryz.prog Tryz.f7 [] false w args∧laidMetH Tryz.prog Rows.kernelApartRow.laid w)∧sizedMet enc Tryz.prog Tryz.f7 (OpenSpec.ofChange Rows.kernelApartSpec) false w args)
  (Rows.kernelApartSpec.post enc Tryz.prog Tryz.f7 false true false false):=by
 refine qP (C:=Tryz.checked) (X:=fun w _=>laidMetH Tryz.prog Rows.kernelApartRow.laid w) (fun _ _ _ hh h=>h.of_heap hh) QY started (by kernel_rfl) Tryz.func7
  (ChangeSpec.witness_at (enc:=enc) (C:=Tryz.checked) (os:=os) (X:=fun w _=>laidMetH Tryz.prog Rows.kernelApartRow.laid w) false ({ World.holding Tryz.prog os ⟨#[],#[],[]⟩ with heap:=((((((World.holding Tryz.prog os ⟨#[],#[],[]⟩).heap.modify 0 fun | .cells _ t frozen=>.cells #[fC] t frozen|o=>o).modify 3 fun | .cells _ t frozen=>.cells (mi Rows.laid_internal_strconv_uint64pow10) t frozen|o=>o).modify 1 fun | .cells _ t frozen=>.cells (mi Rows.laid_math_bits_deBruijn32tab) t frozen|o=>o).modify 2 fun | .cells _ t frozen=>.cells (mi Rows.laid_math_bits_deBruijn64tab) t frozen|o=>o).modify 6 fun | .cells _ t frozen=>.cells (vD Rows.laid_unicode_utf8_acceptRanges) t frozen|o=>o).modify 5 fun | .cells _ t frozen=>.cells (vD Rows.laid_unicode_utf8_first) t frozen|o=>o }:World) #[.int .i64 0,.slice none 0 0,.slice none 0 0,.int .i64 0] 8 rfl (by kernel_rfl) (by kernel_rfl) (by kernel_rfl) (by kernel_rfl) (by kernel_rfl) (Lr os _)) ?_
 intro W base args ds gs before hval0 hW hL hsh
 have hval:∀(j:Nat) t v,Tryz.f7.params[j]? = some t→args[j]? = some v→Value.okWide Tryz.prog W .any base t v:=hval0
 have hW':=hW
 obtain ⟨p,q,X5,hV0,rfl,hfz,hnd⟩:=hW
 have hA:DataW.TrodAll enc Tryz.prog W 0 (fun _=>true) true Tryz.f7.params.toList args.toList ds p:=X5
 have hV:DataW.TrodVars enc Tryz.prog W (fun _=>true) [] gs q:=hV0
 rw [Tryz.params7] at hA hval
 obtain ⟨v0,vs0,d0,ds0,p0,q0,hargs,rfl,rfl,h0,r0⟩:=trodAll_cons hA
 obtain ⟨v1,vs1,d1,ds1,p1,q1,rfl,rfl,rfl,h1,r1⟩:=trodAll_cons r0
 obtain ⟨v2,vs2,d2,ds2,p2,q2,rfl,rfl,rfl,h2,r2⟩:=trodAll_cons r1
 obtain ⟨v3,vs3,d3,ds3,p3,q3,rfl,rfl,rfl,h3,r3⟩:=trodAll_cons r2
 obtain ⟨rfl,rfl,rfl⟩:=trodAll_nil r3
 obtain rfl:args=#[v0,v1,v2,v3]:=by cases args;simp_all
 obtain ⟨n0,rfl,rfl,rfl,hw0⟩:=open_int Tryz.underlying3 (hval 0 3 v0 rfl rfl) h0
 obtain ⟨a1,jh,uX,rfl⟩:=okWide_slice Tryz.underlying66 (hval 1 66 v1 rfl rfl)
 have k1:=h1
 have lt1:∀x∈p1,x.block<W.heap.size:=by obtain ⟨m,hm⟩:=k1;exact DataW.trod_lt m _ _ _ hm
 obtain ⟨abp,hf1⟩:=h1
 obtain ⟨Yk,WI,hc1⟩:=uJ (by simpa [Value.cells] using hf1)
 obtain ⟨a2,iM,cap2,rfl⟩:=okWide_slice Tryz.underlying66 (hval 2 66 v2 rfl rfl)
 have k2:=h2
 have lt2:∀x∈p2,x.block<W.heap.size:=by obtain ⟨m,hm⟩:=k2;exact DataW.trod_lt m _ _ _ hm
 obtain ⟨abo,hf2⟩:=h2
 obtain ⟨Yj,WH,hc2⟩:=uJ (by simpa [Value.cells] using hf2)
 obtain ⟨n3,rfl,rfl,rfl,hw3⟩:=open_int Tryz.underlying3 (hval 3 3 v3 rfl rfl) h3
 have hg:=Kw (oP hL).2
 have hT:=Lj hL
 have hpw:=Lp hL
 obtain ⟨m,hm⟩:=Kc hsh
 obtain ⟨rfl,rfl⟩:gs=[]∧q=[]:=by
  cases gs with
  |nil=>exact ⟨rfl,hV⟩
  |cons g r=>exact absurd hV (by intro h;cases h)
 have key:Calls Tryz.prog 7 #[.int .i64 n0,.slice a1 jh uX,.slice a2 iM cap2,.int .i64 n3] W fun e w'=>e=.returned (.bool true)∧Below W.heap.size W w':=by
  by_cases hS:nP Yk jh∧nP Yj iM
  ·exact Ez n0 a1 jh uX Yk a2 iM cap2 Yj n3 W WI hc1 WH hc2 hS.1 hS.2 m hm hg hT hpw
  ·exact Gt n0 a1 jh uX Yk a2 iM cap2 Yj n3 W WI WH hS
 refine key.mono fun e W' ⟨he,LV⟩=>?_
 subst he
 exact ⟨_,rfl,_,_,_,[],_,[],hW',trodAll_mk1 (shut_bool Tryz.underlying4 _),(trodAll_cons_mk (shut_int Tryz.underlying3 hw0) (trodAll_cons_mk (Below.trod laidOut (by kernel_rfl) (of_decide_eq_true (by kernel_rfl)) k1 LV lt1) (trodAll_cons_mk (Below.trod laidOut (by kernel_rfl) (of_decide_eq_true (by kernel_rfl)) k2 LV lt2) (trodAll_cons_mk (shut_int Tryz.underlying3 hw3) trodAll_mk0)))),rfl,LV.frame _,fun h=>by cases h⟩
end Go.Proofs.YtcfhanoekniaaaaGreatDoor

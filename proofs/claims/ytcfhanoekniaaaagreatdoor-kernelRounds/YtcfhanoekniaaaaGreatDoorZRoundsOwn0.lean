/- What the listed variables give a walk, and a contract that is told the world's shape. -/
import Derived.Test.YtcfhanoekniaaaaGreatDoorTell
import Derived.Shelf.Vars
import Derived.HandedShaped
import Derived.Test.YtcfhanoekniaaaaGreatDoorCards
import Derived.Test.YtcfhanoekniaaaaGreatDoorTie
import Derived.ChangeAt
import Derived.ChangeShapes
import Derived.WideShapes
import Derived.OpenShut
import Derived.ChangeOld
import Derived.Deep.Slices
import Derived.ChangeSame
import Derived.ChangeVars
import Derived.JoinedOf
import Derived.RowKit
import Derived.RowKitTokens
import Derived.LaidLaws
import Derived.LaidHandle
import Derived.Stop.Joined
import Derived.SevenTiedAt
import Derived.Test.YtcfhanoekniaaaaGreatDoorZRuns
import Derived.Test.YtcfhanoekniaaaaGreatDoorZApart
import Derived.Deep.LoopGhost
import Derived.Deep.DeepCutAuto
import Derived.Deep.CutBlock
set_option maxHeartbeats 16000000
set_option maxRecDepth 100000
namespace Go.Proofs.YtcfhanoekniaaaaGreatDoor
open Go.ChangeShapes Go.WideShapes Go.ChangeAt Go.RowKit
theorem Rv:ownKnob Tryz.prog.godebug=none:=by kernel_rfl
theorem laidOut:laidOutB Tryz.prog=true:=by kernel_rfl
theorem et:Tryz.prog.globalNamed "errors.errorType" = some 0:=by kernel_rfl
theorem Vj:((List.range 505).filter fun t=>Tryz.prog.rowNamed t [101,114,114,111,114])=[27]:=by kernel_rfl
theorem JV:Tryz.prog.types.size=505:=by kernel_rfl
theorem K8 {W:World}(h:handlesMet Tryz.prog [("errors.errorType",Rows.laid_errors_errorType)] W):W.cell? ⟨0,0,none⟩=some fJ:=by
 obtain ⟨name,u,ty,e1,e2,e3,e4,e5⟩:=h _ (List.mem_singleton.2 rfl)
 have en:name=[101,114,114,111,114]:=(Option.some.inj e1).symm
 subst en
 have hu:u=350:=Option.some.inj (Eq.trans (Eq.symm e2) (by kernel_rfl))
 subst hu
 have hm:ty∈(List.range 505).filter fun t=>Tryz.prog.rowNamed t [101,114,114,111,114]:=List.mem_filter.2 ⟨List.mem_range.2 (by rw [←JV];exact e3),e4⟩
 rw [Vj] at hm
 obtain rfl:=List.mem_singleton.1 hm
 have hh:typeHandle Tryz.prog 27=.pointer (some ⟨7,27,none⟩):=by kernel_rfl
 rw [hh] at e5
 simpa using World.var?_cell et e5 0
theorem KJ {W:World}(h:W.ShapedOpen Tryz.prog):∃m,W.cell? ⟨4,0,none⟩=some (.int .i64 m):=
 cell_of_shapedOpen_int (t:=3) (zero:=#[.int .i64 0]) h (of_decide_eq_true (by kernel_rfl)) (by kernel_rfl) rfl (by kernel_rfl) (by kernel_rfl) Tryz.underlying3
def vO (d:DataW Unit):Array Value:=match d with
 |.agg l=>(l.flatMap fun x=>match x with
  |.lit (.int k n)=>[Value.int k n]
  |.agg l2=>l2.map fun y=>match y with
   |.lit (.int k n)=>Value.int k n
   |_=>.nilIface
  |_=>[]).toArray
 |_=>#[]
theorem qX {H:Type}{enc:TypeId×Value→H}{a:Assume}{C:Checked}{os:Os}{f:FuncId}{fn:Func}{s:ChangeSpec}{conds:List PathCond}{apart fresh handsOn again:Bool}{X:World→Array Value→Prop}
 (hX:∀(w w':World) (args:Array Value),w.heap=w'.heap→X w args→X w' args)
 (own:ownKnob C.prog.godebug=none) (started:os.Started) (noInit:C.prog.inits.idxOf? f=none) (hfn:C.prog.funcs[f]? = some fn)
 (witness:∃(w:World) (tape:Tape) (i:Input),w.os=os∧(w.forCall tape i).Shaped C.prog∧i.vars=[]∧Input.okWide C.prog (w.forCall tape i) .any w.heap.size f i∧
   ((s.pre enc C.prog fn conds apart (w.forCall tape i).memory i.args∧X (w.forCall tape i).memory i.args)∧sizedMet enc C.prog fn (OpenSpec.ofChange s) apart (w.forCall tape i).memory i.args)∧a.holds C.prog (lone (Frame.enter C.prog f i.args .normal) [] (w.forCall tape i)))
 (contract:∀(W:World) (base:Nat) (args:Array Value) (ds gs:List (DataW H)) (before:List MemPlace),
   (∀(j:Nat) t v,fn.params[j]? = some t→args[j]? = some v→Value.okWide C.prog W .any base t v)→
   DataW.Whole enc C.prog fn.params.toList s.vars apart W args.toList ds gs before→
   X W args→W.ShapedOpen C.prog→
   Calls C.prog f args W fun e W'=>∃v,e=.returned v∧s.post enc C.prog fn apart fresh handsOn again W args v W') :
 ReturnsInHanded a C os f .any (fun w args=>(s.pre enc C.prog fn conds apart w args∧X w args)∧sizedMet enc C.prog fn (OpenSpec.ofChange s) apart w args) (s.post enc C.prog fn apart fresh handsOn again):=by
 refine returnsInHanded_of_calls own started noInit witness ?_
 intro w tape i _ hsh _ hok hpre _
 obtain ⟨_,_,_,fn',hfn',_,_,_,_,hval⟩:=hok
 have e:fn'=fn:=Option.some.inj (hfn'.symm.trans hfn)
 subst e
 obtain ⟨⟨⟨ds,gs,before,hw,hc⟩,hx⟩,hz⟩:=hpre
 have hw':=DataW.Whole.of_heap (w':=w.forCall tape i) (by rfl) hw
 refine (contract (w.forCall tape i) w.heap.size i.args ds gs before hval hw' (hX _ _ _ (by rfl) hx) hsh).mono fun e W' ⟨v,he,hp⟩=>?_
 subst he
 exact ChangeSpec.post_blind hp
def mH (d:DataW Unit):Array Value:=match d with
 |.agg l=>(l.map fun x=>match x with
  |.lit (.int k n)=>Value.int k n
  |_=>.nilIface).toArray
 |_=>#[]
theorem nW {W:World}{x:String×DataW Unit}{r:List (String×DataW Unit)}(h:laidMet Tryz.prog (x :: r) W):laidMet Tryz.prog r W:=by
 obtain ⟨ps,⟨g,t,cs,fuel,p,q,h1,h2,h3,h4,h5,rfl⟩,hn,hk⟩:=h
 exact ⟨q,h5,(List.nodup_append.1 hn).2.1,fun b off hb=>hk b off (List.mem_append_right _ hb)⟩
theorem Gj:(Rows.laid_math_bits_deBruijn64tab:DataW Unit)=.agg (Lib.deBruijn64tab.map fun (n:Nat)=>.lit (.int .u8 (n:Int))):=by kernel_rfl
theorem FW {W:World}{r:List (String×DataW Unit)}{name:String}(bt:Tryz.prog.globalNamed name=some 2) (h:laidMet Tryz.prog ((name,Rows.laid_math_bits_deBruijn64tab) :: r) W):mi W:=by
 obtain ⟨ps,⟨g,t,cs,fuel,p,q,hg,ht,hv,htr,_,_⟩,_,_⟩:=h
 obtain rfl:429=t:=Option.some.inj (Eq.trans (Eq.symm (show (Tryz.prog.globals[2]?).map (·.type)=some 429 by kernel_rfl)) (by rw [←Option.some.inj (bt.symm.trans hg)] at ht;exact ht))
 rw [Gj] at htr
 obtain ⟨xs,m,_,hx,hlen,hxl,hf⟩:=DataW.trod_array Tryz.underlying429 htr
 have hxs:Lib.deBruijn64tab.map (fun (n:Nat)=>(.lit (.int .u8 (n:Int)):DataW Unit))=xs.map (·.1):=by
  have:=congrArg Prod.fst hx
  simpa using this
 intro j hj
 have hj':j<64:=hj
 have hfj:=hf j hj'
 have Ym:j<xs.length:=by omega
 rw [List.getElem?_eq_getElem Ym,show Tryz.prog.cellsOf 5=1 by kernel_rfl,Nat.mul_one] at hfj
 obtain ⟨n0,e0,e1,_⟩:=DataW.trod_int Tryz.underlying5 hfj
 have hn:(n0:Int)=((Lib.deBruijn64tab.getD j 0:Nat):Int):=by
  have h1:(Lib.deBruijn64tab.map (fun (n:Nat)=>(.lit (.int .u8 (n:Int)):DataW Unit)))[j]? = (xs.map (·.1))[j]? := by rw [hxs]
  rw [List.getElem?_map,List.getElem?_map,List.getElem?_eq_getElem Ym,List.getElem?_eq_getElem hj,e1] at h1
  simp only [Option.map_some,Option.some.injEq,DataW.lit.injEq,Lit.int.injEq,true_and] at h1
  rw [←h1,List.getD_eq_getElem?_getD,List.getElem?_eq_getElem hj];rfl
 rw [World.var?_cell bt hv j,←hn]
 have h2:(cs.toList.drop j)[0]? = some (.int .u8 n0):=by
  have:((cs.toList.drop j).take 1)[0]? = some (.int .u8 n0):=by rw [e0];rfl
  rwa [List.getElem?_take_of_lt (by omega)] at this
 rw [List.getElem?_drop,Nat.add_zero,Array.getElem?_toList] at h2
 exact h2
theorem QQ {n:Int}(h:(Lit.int .i64 n).wf=true):n≤9223372036854775807:=by
 have b:IntKind.max .i64=9223372036854775807:=rfl
 simp only [Lit.wf,b,Bool.and_eq_true,decide_eq_true_eq] at h;omega
theorem uT {H:Type}{enc:TypeId×Value→H}{W:World}{fuel:Nat}{a:Option Addr}{len cap:Nat}{x:DataW H×List MemPlace}
 (h:DataW.trod enc Tryz.prog W 0 (fun _=>true) true fuel 66 [.slice a len cap]=some x):∃q,wu W a len q∧∀i,i<len→(Lit.int .i64 (q i).c).wf=true:=by
 rcases Go.Deep.open_slice Tryz.underlying66 h with ⟨hcs,_⟩|⟨ad,l,c,m,k,D,Pl,hcs,_,hl,_,hm,_,hx⟩
 ·simp at hcs
  exact ⟨fun _=>⟨0,0,0,0,0,[],[]⟩,.inl hcs.2.1,fun i hi=>rfl⟩
 ·simp at hcs
  obtain ⟨rfl,rfl,rfl⟩:=hcs
  by_cases h0:len=0
  ·exact ⟨fun _=>⟨0,0,0,0,0,[],[]⟩,.inl h0,fun i hi=>rfl⟩
  have hmc:m=cap:=by simpa using hm
  have each:∀i,i<m→∃q:CI,(W.cell? ((ad.add (i*7)).add 0)=some (.int .i64 q.what)∧W.cell? ((ad.add (i*7)).add 1)=some (.int .i64 q.p)∧W.cell? ((ad.add (i*7)).add 2)=some (.int .i64 q.a)∧W.cell? ((ad.add (i*7)).add 3)=some (.int .i64 q.b)∧W.cell? ((ad.add (i*7)).add 4)=some (.int .i64 q.c)∧W.cell? ((ad.add (i*7)).add 5)=some (tx q.s)∧W.cell? ((ad.add (i*7)).add 6)=some (tx q.t))∧q.ok∧(Lit.int .i64 q.c).wf=true:=by
   intro i hi
   obtain ⟨cs',c1,c2⟩:=hx i hi
   rw [show Tryz.prog.cellsOf 71=7 by kernel_rfl] at c1
   obtain ⟨_,hlen,hcell⟩:=World.cells?_some c1
   obtain ⟨xs,n',_,_,_,hxl,hf⟩:=DataW.trod_struct Tryz.underlying71 c2
   match cs',hlen with
   | [v0,v1,v2,v3,v4,v5,v6],_=>
    have g0:=hf 0 _ rfl
    have g1:=hf 1 _ rfl
    have g2:=hf 2 _ rfl
    have g3:=hf 3 _ rfl
    have g4:=hf 4 _ rfl
    have g5:=hf 5 _ rfl
    have g6:=hf 6 _ rfl
    have l7:xs.length=7:=hxl
    match xs,l7 with
    | [y0,y1,y2,y3,y4,y5,y6],_=>
     obtain ⟨n0,e0,_,_⟩:=DataW.trod_int Tryz.underlying3 g0
     obtain ⟨n1,e1,_,hw1⟩:=DataW.trod_int Tryz.underlying3 g1
     obtain ⟨n2,e2,_,hw2⟩:=DataW.trod_int Tryz.underlying3 g2
     obtain ⟨n3,e3,_,hw3⟩:=DataW.trod_int Tryz.underlying3 g3
     obtain ⟨n4,e4,_,hw4⟩:=DataW.trod_int Tryz.underlying3 g4
     obtain ⟨s5,e5,_,_⟩:=DataW.trod_string Tryz.underlying9 g5
     obtain ⟨s6,e6,_,_⟩:=DataW.trod_string Tryz.underlying9 g6
     have z:Tryz.prog.cellsOf 3=1:=by kernel_rfl
     have z':Tryz.prog.cellsOf 9=1:=by kernel_rfl
     simp [z] at e0 e1 e2 e3 e4
     simp [z'] at e5 e6
     subst e0 e1 e2 e3 e4 e5 e6
     exact ⟨⟨n0,n1,n2,n3,n4,s5.data.toList,s6.data.toList⟩,⟨hcell 0 (by omega),hcell 1 (by omega),hcell 2 (by omega),hcell 3 (by omega),hcell 4 (by omega),by have:=hcell 5 (by omega);simpa [tx] using this,by have:=hcell 6 (by omega);simpa [tx] using this⟩,⟨hw1,hw2,QQ hw3⟩,hw4⟩
  have first:=each 0 (by omega)
  obtain ⟨q0,⟨f0,_⟩,_,_⟩:=first
  obtain ⟨blk,off,spot⟩:=ad
  have hspot:spot=none:=by simpa [Addr.add] using World.cell?_spot f0
  subst hspot
  have hb:blk<W.heap.size:=by simpa [Addr.add] using World.block_lt_of_cell? W _ f0
  have all:∃q:Nat→CI,∀i,i<m→(W.cell? (((⟨blk,off,none⟩:Addr).add (i*7)).add 0)=some (.int .i64 (q i).what)∧W.cell? (((⟨blk,off,none⟩:Addr).add (i*7)).add 1)=some (.int .i64 (q i).p)∧W.cell? (((⟨blk,off,none⟩:Addr).add (i*7)).add 2)=some (.int .i64 (q i).a)∧W.cell? (((⟨blk,off,none⟩:Addr).add (i*7)).add 3)=some (.int .i64 (q i).b)∧W.cell? (((⟨blk,off,none⟩:Addr).add (i*7)).add 4)=some (.int .i64 (q i).c)∧W.cell? (((⟨blk,off,none⟩:Addr).add (i*7)).add 5)=some (tx (q i).s)∧W.cell? (((⟨blk,off,none⟩:Addr).add (i*7)).add 6)=some (tx (q i).t))∧(q i).ok∧(Lit.int .i64 (q i).c).wf=true:=by
   refine ⟨fun i=>if hi:i<m then Classical.choose (each i hi) else ⟨0,0,0,0,0,[],[]⟩,fun i hi=>?_⟩
   simp only [hi,dif_pos]
   exact Classical.choose_spec (each i hi)
  obtain ⟨q,hq⟩:=all
  refine ⟨q,.inr ⟨blk,off,rfl,hb,fun i hi=>?_⟩,fun i hi=>(hq i (by omega)).2.2⟩
  have:=hq i (by omega)
  simp only [Addr.add_lit,Nat.add_zero] at this
  exact ⟨this.1,this.2.1⟩
end Go.Proofs.YtcfhanoekniaaaaGreatDoor
namespace Go.Proofs.YtcfhanoekniaaaaGreatDoor
open Go.RowKit Go.Maps
theorem Ja {f g:Int→Bool}:∀ {L:List Int}{c:Int},L.Nodup→c∈L→f c=false→g c=true→(∀y,y≠c→g y=f y)→L.countP g=L.countP f+1
 |y :: L,c,hn,hc,h0,h1,h=>by
  rw [List.countP_cons,List.countP_cons]
  have hn:=List.nodup_cons.1 hn
  rcases List.mem_cons.1 hc with rfl|hc
  ·have e:L.countP g=L.countP f:=List.countP_congr (fun y hy=>by rw [h y (fun z=>hn.1 (z ▸ hy))])
   rw [h0,h1,e,if_pos rfl,if_neg (by simp)]
  ·have:=Ja hn.2 hc h0 h1 h
   rw [h y (fun z=>hn.1 (z ▸ hc)),this];omega
abbrev Yc:List Int:=(List.range 24).map (fun i:Nat=>(i:Int)+1)
theorem Dv (P:Ps):ny P (af P)=Yc.countP (fun x=>gJ P x == 1):=by
 unfold ny af
 rw [List.filter_filter,List.countP_eq_length_filter]
 congr 1
 refine List.filter_congr fun x _=>?_
 cases h:P x with
 |none=>simp [il h]
 |some r=>simp
theorem Oo {P:Ps}{n:Int}(h:n∈af P):(af (pY P n)).length<(af P).length:=by
 unfold af at h ⊢
 rw [List.mem_filter] at h
 rw [←List.countP_eq_length_filter,←List.countP_eq_length_filter]
 refine cnt_lt (fun y hy=>?_) h.1 (by unfold pY;simp) h.2
 unfold pY at hy
 split at hy
 ·cases hy
 ·exact hy
section
variable {w0 w w':World}{m:Int}{kb q:Nat}{C:Hg}{S S':KS}{p:Int}{o:Ow}
theorem EA (hj:lV S.P) (hc:(af S.P).length<24) (p:Int) (o:Ow):eY (dx S p o)=eY S+1:=by
 obtain ⟨c,Mk,uH⟩:=mo.ex hj.CV hc
 have hl:=jd Mk uH
 have hp:=Mk.pos
 show ny (dw S.P p (ay S.P)) (af (dw S.P p (ay S.P)))=ny S.P (af S.P)+1
 rw [hl,Dv,Dv]
 refine Ja ?_ (c:=c) (List.mem_map.2 ⟨(c-1).toNat,List.mem_range.2 (by omega),by omega⟩) ?_ ?_ (fun y hy=>?_)
 ·refine List.Pairwise.imp (R:=(· < ·)) (fun h=>by omega) ?_
  rw [List.pairwise_map]
  exact List.pairwise_lt_range.imp (fun h=>by omega)
 ·rw [il Mk.no];rfl
 ·unfold dw;rw [gq (dN _ _ _)];rfl
 ·unfold gJ dw;rw [iQ hy]
theorem KC.O4 (h:KC w0 w m kb C S q) (hp:(Lit.int .i64 p).wf=true) (hb:S.O p=none∨∃o,S.O p=some o∧24≤(af S.P).length) :
 Calls Tryz.prog 14 #[wp kb,.int .i64 p] w fun y w'=>∃er,y=.returned (.tuple #[.int .i64 0,eX er])∧KC w0 w' m kb C S q:=by
 have h':=h
 obtain ⟨H,A,e,k,hA,Ha,hC⟩:=h
 rw [←e.1]
 rcases hb with ho|⟨o,ho,hc⟩
 ·refine (k.1.I4 ho hp).mono ?_
  rintro y w' ⟨rfl,rfl⟩
  rw [e.1]
  exact ⟨7,rfl,h'⟩
 ·refine (k.Aa ho hc).mono ?_
  rintro y w' ⟨rfl,A',k',st⟩
  exact ⟨12,rfl,H,A',⟨rfl,e.2⟩,k',fun i hi=>by
   rcases st.own i hi with z|z
   ·exact hA i z
   ·exact Nat.le_trans Ha.size z,Stp.toBelow Ha hA st,fun y hy=>st.aW (hC y hy).1 (hC y hy).2⟩
theorem KC.Ld (h:KC w0 w m kb C S q) (hq:q≤90) (ho:S.O p=some o) (hc:(af S.P).length<24) :
 Calls Tryz.prog 14 #[wp kb,.int .i64 p] w fun y w'=>y=.returned (.tuple #[.int .i64 (ay S.P),.nilIface])∧KC w0 w' m kb C (dx S p o) (q+1):=by
 obtain ⟨H,A,e,k,hA,hb,hC⟩:=h
 rw [←e.1]
 refine (k.BN ho hq hc).mono ?_
 rintro y w' ⟨rfl,n⟩
 exact ⟨rfl,KC.nxt ⟨rfl,e.2⟩ hA hb hC n⟩
theorem KC.NH (h:KC w0 w m kb C S q) (hp:(Lit.int .i64 p).wf=true) (hb:S.O p=none∨∃o,S.O p=some o∧(aI S.P p).2.2.1≠0) :
 Calls Tryz.prog 36 #[wp kb,.int .i64 p] w fun y w'=>∃n c er,y=.returned (.tuple #[.int .i64 n,.int .i64 c,eX er])∧KC w0 w' m kb C S q:=by
 rcases hb with ho|⟨o,ho,hc⟩
 ·have h':=h
  obtain ⟨H,A,e,k,hA,Ha,hC⟩:=h
  rw [←e.1]
  refine (k.1.Bj ho hp).mono ?_
  rintro y w' ⟨rfl,rfl⟩
  rw [e.1]
  exact ⟨_,_,7,rfl,h'⟩
 ·refine (h.wait ho).mono ?_
  rintro y w' ⟨rfl,k⟩
  rw [JI hc] at k
  exact ⟨_,_,_,by rw [aB hc],k⟩
theorem KC.JH (h:KC w0 w m kb C S q) (ho:S.O p=some o) (hc:(aI S.P p).2.2.1=0) :
 (Calls Tryz.prog 36 #[wp kb,.int .i64 p] w fun y w'=>∃n c,y=.returned (.tuple #[.int .i64 n,.int .i64 c,.nilIface])∧KC w0 w' m kb C (S.procs (aI S.P p).2.2.2) q)∧(af (aI S.P p).2.2.2).length<(af S.P).length:=by
 refine ⟨?_,?_⟩
 ·refine (h.wait ho).mono ?_
  rintro y w' ⟨rfl,k⟩
  exact ⟨_,_,by rw [hc];rfl,k⟩
 ·unfold aI at hc ⊢
  split at hc
  ·cases hc
  ·rename_i hr
   rw [if_neg hr]
   split at hc
   ·rename_i n hf
    exact Oo (List.mem_of_find?_eq_some hf)
   ·simp only at hc
    split at hc<;>cases hc
structure Rk (S0:KS) (p:Int) (o:Ow) (S:KS):Prop where
 rd:Rd S0 (dx S0 p o) (ay S0.P) S
 run:eY S=eY S0+1
theorem Rk.start (hj:lV S.P) (hc:(af S.P).length<24) (p:Int) (o:Ow):Rk S p o (dx S p o):=⟨Rd.start S p o _,EA hj hc p o⟩
theorem Rk.child {S0:KS}(h:Rk S0 p o S):S.O (ay S0.P)=some ⟨S0.Ts.length,o.m,o.dF⟩:=by
 rw [h.rd.O];exact df _ _ _
theorem Rk.parent {S0:KS}(h:Rk S0 p o S) (hne:p≠ay S0.P):S.O p=S0.O p:=by
 rw [h.rd.O];exact dQ hne
theorem Rk.call {S0:KS}{w1:World}{C1:Hg}{q1:Nat}{a b d:Int}{s t:List UInt8}{W e:Int}(h:Rk S0 p o S) (k0:KC w0 w1 m kb C1 S0 q1) (k:KC w0 w m kb C S q) (hq:q≤90) (r:aX S (ay S0.P) a b d s t W e S') (hW:¬(W<5∨W=11∨W=12∨16<W∧W≠25∧W≠26)) (hr:eY S'=eY S0+1):Rk S0 p o S':=by
 obtain ⟨_,_,_,n0,_⟩:=k0
 obtain ⟨_,_,_,n,_⟩:=k
 have h1:(dx S0 p o).O (ay S0.P)=some ⟨S0.Ts.length,o.m,o.dF⟩:=df _ _ _
 exact ⟨h.rd.call r n hq n0.1.inv n0.lie.len h1 rfl hW (by rw [hr,h.run]),hr⟩
theorem Si (hj:lV S.P) (hc:(af S.P).length<24) (kk:(S.O p).isSome=az S.P p) (hp:S.O p=some o):p≠ay S.P∧1<ay S.P∧ay S.P≤24:=by
 obtain ⟨c,Mk,uH⟩:=mo.ex hj.CV hc
 rw [jd Mk uH]
 have h1:=Mk.pos
 refine ⟨fun e=>?_,?_,uH⟩
 ·rw [hp] at kk
  obtain ⟨r,hr,_⟩:=bq.1 kk.symm
  rw [e,Mk.no] at hr;cases hr
 ·obtain ⟨r,hr,_⟩:=hj.one
  have:c≠1:=fun e=>by have h9:=Mk.no;rw [e,hr] at h9;cases h9
  omega
theorem Rk.ends {S0:KS}{w1 w2:World}{C1 C2:Hg}{q1 q2:Nat}(h:Rk S0 p o S) (k0:KC w0 w1 m kb C1 S0 q1) (k:KC w0 w m kb C S q) (hq:q≤90) (hp:S0.O p=some o) (hc:(af S0.P).length<24) (hw:(aI S0.P p).2.2.1≠0) {oc:Ow}(ho:S.O (ay S0.P)=some oc) (k2:KC w0 w2 m kb C2 (aM S (ay S0.P) oc 7) q2) :
 aI (aM S (ay S0.P) oc 7).P p=(ay S0.P,7,0,S0.P)∧Vr S0 ((aM S (ay S0.P) oc 7).procs S0.P):=by
 have hj:=k0.Mj
 obtain ⟨_,_,_,n0,_⟩:=k0
 obtain ⟨_,_,_,n,_⟩:=k
 obtain ⟨_,_,_,n2,_⟩:=k2
 exact h.rd.ends n0 n hq hj hp hc hw ho 7 n2
end
theorem ED (n:Int) (PX:Option Addr) (jv vz:Nat) (q1:Nat→CI) (pid:Int) (Mt:Option Addr) (j6 cap2:Nat) (q2:Nat→CI) (w:World) (hsc1:wu w PX jv q1) (hsc2:wu w Mt j6 q2) (h:¬(og q1 jv∧og q2 j6)) :
 Calls Tryz.prog 8 #[.int .i64 n,.slice PX jv vz,.int .i64 pid,.slice Mt j6 cap2] w fun e w'=>e=.returned (.bool true)∧Below w.heap.size w w':=by
 by_cases hS:og q1 jv
 ·have hC:∀(x:Value) (b:Bool),(x=.slice PX jv vz∧b=true)∨(x=.slice Mt j6 cap2∧b=false)→Calls Tryz.prog 31 #[x] w fun e w'=>e=.returned (.bool b)∧w'=w:=fun x b z=>by
   rcases z with ⟨rfl,rfl⟩|⟨rfl,rfl⟩
   ·exact uD PX jv vz q1 w hsc1 hS
   ·exact Eh Mt j6 cap2 q2 w hsc2 (fun z=>h ⟨hS,z⟩)
  clear hsc1 hsc2 h hS
  go_enter Tryz.func8,Tryz.ntmps8
  go_wp2_with (go_at_call 31;refine (hC _ _ (by first|exact .inl ⟨rfl,rfl⟩|exact .inr ⟨rfl,rfl⟩)).mono ?_;rintro e w1 ⟨rfl,hw1⟩;subst w1)
  go_ret
  exact ⟨rfl,Below.refl _ _⟩
 ·have hC1:=Eh PX jv vz q1 w hsc1 hS
  clear hsc1 hsc2 h hS
  go_enter Tryz.func8,Tryz.ntmps8
  go_wp2_with (go_at_call 31;refine hC1.mono ?_;rintro e w1 ⟨rfl,hw1⟩;subst w1)
  go_ret
  exact ⟨rfl,Below.refl _ _⟩
theorem Ck (n:Int) (PX:Option Addr) (jv vz:Nat) (q1:Nat→CI) (pid:Int) (Mt:Option Addr) (j6 cap2:Nat) (q2:Nat→CI) (w:World) (hsc1:wu w PX jv q1) (Xv:∀i,i<jv→(Lit.int .i64 (q1 i).c).wf=true) (hsc2:wu w Mt j6 q2) (hcw2:∀i,i<j6→(Lit.int .i64 (q2 i).c).wf=true) (hS1:og q1 jv) (hS2:og q2 j6) (m:Int) (hm:w.cell? ⟨4,0,none⟩=some (.int .i64 m)) (he:w.cell? ⟨0,0,none⟩=some fJ) (ht:mi w) (hp:Pow w) :
 Calls Tryz.prog 8 #[.int .i64 n,.slice PX jv vz,.int .i64 pid,.slice Mt j6 cap2] w fun e w'=>e=.returned (.bool true)∧Below w.heap.size w w':=by
 have hC:∀x:Value,x=.slice PX jv vz∨x=.slice Mt j6 cap2→Calls Tryz.prog 31 #[x] w fun e w'=>e=.returned (.bool true)∧w'=w:=fun x z=>by
  rcases z with rfl|rfl
  ·exact uD PX jv vz q1 w hsc1 hS1
  ·exact uD Mt j6 cap2 q2 w hsc2 hS2
 have hl1:jv≤40:=hS1.1
 have hl2:j6≤40:=hS2.1
 have hK:=R7 (ok:=true) w hm he ⟨ht.lt,fun _=>ht⟩
 obtain ⟨n8,Y7,hp1⟩:=zt n 60 (by omega) (by omega)
 have hF:=fun V (b:Below w.heap.size w V)=>VB w V b (8+n8) (by omega) (by omega) hm he ht
 have hn9:((8+n8:Nat):Int)=8+(n8:Int):=by omega
 rw [hn9] at hF
 clear hn9
 have hSn:Aside ((iA (8+n8)).n<100):=(show 8+n8<100 by omega)
 have hSW:Aside (jF (iA (8+n8)).W):=(show jF (iA (8+n8)).W from fun i j=>⟨by show (-9223372036854775808:Int)≤0;omega,by show (0:Int)≤9223372036854775807;omega⟩)
 clear hm he ht
 go_enter Tryz.func8,Tryz.ntmps8
 go_upto_region 8 with (first
  |(go_at_call 31;refine (hC _ (by first|exact .inl rfl|exact .inr rfl)).mono ?_;rintro e w1 ⟨rfl,hw1⟩;subst w1)
  |(go_at_call 11;refine hK.mono ?_;rintro e w1 ⟨rfl,b1⟩;have c0:=hF _ b1)
  |(go_at_call 18;refine (hp1 _).mono ?_;rintro e w3 ⟨rfl,hw3⟩;subst w3)
  |(go_at_call 12;refine c0.mono ?_;rintro e w2 ⟨kb,rfl,k2⟩))
 clear c0 hF hK hC hp1 b1
 generalize iA (8+n8)=S1 at *
 go_wp2_with fail
 go_loopg [11] jv (fun g s11 wx=>∃(i:Nat) (S:KS),Aside (i+g=jv)∧s11=.int .i64 (i:Int)∧KC w wx m kb [] S i∧Aside (S.n<100)∧Aside (jF S.W))
 case atStart=>exact ⟨0,S1,(show 0+jv=jv by omega),rfl,k2,hSn,hSW⟩
 case round=>
  clear k2 hSn hSW
  obtain ⟨i,S,HI,rfl,k,HN,HW⟩:=hrel
  have hb:=k.He
  by_cases hlt:(i:Int)<(jv:Int)
  ·rcases hsc1.keep hb with h0|⟨blk,off,rfl,hbl,hss⟩
   ·exfalso;omega
   obtain ⟨⟨c0,c1,c2,c3,c4,c5,c6⟩,hok⟩:=hss i (by omega)
   have hsl:=hS1.2 i (by omega)
   have UF:Aside _:=Ib (Xv i (by omega))
   have hP:=k.call (by omega) (q1 i) hok hsl.1 hsl.2
   clear hss hok hsl hb
   generalize (q1 i).what=W at *
   generalize (q1 i).p=p at *
   generalize (q1 i).a=a at *
   generalize (q1 i).b=b at *
   generalize (q1 i).c=c at *
   generalize (q1 i).s=s at *
   generalize (q1 i).t=t at *
   go_wp2_with (go_at_call 33;refine hP.mono ?_;rintro e w5 ⟨er,S',rfl,hR,k5⟩)
   go_roundg (gk-1)
   case measure=>have:=HI.out;omega
   case rel=>exact ⟨i+1,S',(show i+1+(gk-1)=jv by have:=HI.out;omega),by go_num,k5,(show S'.n<100 by rw [hR.n];exact HN.out),hR.Jq HW.out UF.out⟩
  ·have aem:i≤40:=by have:=HI.out;omega
   have PV:=k.jr
   have hL1:1≤(af S.P).length:=by
    obtain ⟨R,hR⟩:=Om k.Mj
    rw [hR];simp
   have Xy:=k.Hu
   clear hsc1 hS1 hb Xv
   go_upto_region 13 with (go_at_call 34;refine PV.mono ?_;rintro e w6 ⟨bp,cp,rfl,hcp,k6,b6⟩)
   have HM:Aside (∀j (hj:j<(af S.P).length),(bp,j,Value.int .i64 (af S.P)[j])∈lS bp (af S.P) ++ []):=fun j hj=>List.mem_append_left _ (qO hj)
   have XC:Aside (∀x∈af S.P,1≤x∧x≤24):=fun x hx=>⟨(k6.Hr hx).1,(k6.Hr hx).2.1⟩
   clear PV b6 k
   obtain ⟨r0,hr0,hp0⟩:=zt pid (af S.P).length hL1 (by omega)
   generalize Uq:lS bp (af S.P) ++ []=C9 at *
   clear Uq
   generalize Yz:af S.P=L at *
   have cr:=k6.at (HM.out r0 hr0)
   have Z8:=XC.out L[r0] (List.getElem_mem hr0)
   have hcr:(r0:Int)<(cp:Int):=by omega
   have aah:(r0:Int)<(L.length:Int):=by omega
   generalize L[r0]=P9 at *
   go_upto_region 14 with (go_at_call 18;refine (hp0 _).mono ?_;rintro e w3 ⟨rfl,hw3⟩;subst w3)
   have ZE:Aside ((af S.P).length≤L.length):=by show _≤_;rw [Yz];exact Nat.le_refl _
   clear cr hp0 hcr aah HM XC hL1 hcp hr0 HI hlt Yz
   have hpw:(Lit.int .i64 P9).wf=true:=CK Z8
   go_wp2_with fail
   go_loopg [13,14,15] L.length (fun g _ _ _ wx=>∃(S:KS),Aside ((af S.P).length≤g)∧KC w wx m kb C9 S i∧Aside (S.n<100)∧Aside (jF S.W))
   case atStart=>exact ⟨S,ZE,k6,HN,HW⟩
   case round=>
    clear k6 HN HW ZE S
    obtain ⟨S,HL,k,HN,HW⟩:=hrel
    by_cases hgo:∃o,S.O P9=some o∧(aI S.P P9).2.2.1=0
    ·obtain ⟨o,ho,hc⟩:=hgo
     obtain ⟨Qe,hlt⟩:=k.JH ho hc
     have HL2:Aside ((af (S.procs (aI S.P P9).2.2.2).P).length<(af S.P).length):=hlt
     have vo:Aside ((S.procs (aI S.P P9).2.2.2).n<100):=HN.out
     have HW2:Aside (jF (S.procs (aI S.P P9).2.2.2).W):=HW.out
     clear hlt hc ho k HN HW
     generalize S.procs (aI S.P P9).2.2.2=S2 at *
     go_wp2_with (go_at_call 36;refine Qe.mono ?_;rintro e w7 ⟨z1,z2,rfl,k7⟩)
     go_roundg (gk-1)
     case measure=>have h1:=HL.out;have h2:=HL2.out;omega
     case rel=>exact ⟨S2,(show (af S2.P).length≤gk-1 by have h1:=HL.out;have h2:=HL2.out;omega),k7,vo,HW2⟩
    ·have hbad:S.O P9=none∨∃o,S.O P9=some o∧(aI S.P P9).2.2.1≠0:=by
      cases ho:S.O P9 with
      |none=>exact .inl rfl
      |some o=>exact .inr ⟨o,rfl,fun z=>hgo ⟨o,ho,z⟩⟩
     have Qe:=k.NH hpw hbad
     obtain ⟨no,nt,hno,hnt,Qy,Qx⟩:=k.nums
     have hA:=fun V (kV:KC w V m kb C9 S i)=>kV.all HW.out (hp.below kV.He) hno hnt 0 HN.out Qy Qx
     have hR:=fun V (kV:KC w V m kb C9 S i)=>kV.runs
     by_cases Zc:∃o,S.O P9=some o∧(af S.P).length<24
     ·obtain ⟨o,ho,hc⟩:=Zc
      have hw0:(aI S.P P9).2.2.1≠0:=by
       rcases hbad with z|⟨_,_,z⟩
       ·rw [ho] at z;cases z
       ·exact z
      have kk:(S.O P9).isSome=az S.P P9:=by obtain ⟨_,_,kn⟩:=k.kn;exact kn.2.run P9
      obtain ⟨hne,hc1,hc24⟩:=Si k.Mj hc kk ho
      have Wx:=fun V (kV:KC w V m kb C9 S i)=>kV.Ld (by omega) ho hc
      have HS:Aside (Rk S P9 o (dx S P9 o)):=Rk.start k.Mj hc P9 o
      have Zz:Aside (jF (dx S P9 o).W):=HW.out
      have HK0:Aside (∃w1,KC w w1 m kb C9 S i):=⟨_,k⟩
      have HX:Aside (∀S' V q,Vr S S'→jF S'.W→S'.n<100→KC w V m kb C9 S' q→Calls Tryz.prog 32 #[wp kb,.int .i64 0] V fun e w'=>e=.returned (tx (allT S no nt 0))∧Below V.heap.size V w'):=fun S' V q v h1 h2 kV=>by
       have:=kV.all h1 (hp.below kV.He) (v.open hno) (v.nodes hnt) 0 h2 Qy Qx
       rw [v.all] at this
       exact this
      have HO:Aside (S.O P9=some o):=ho
      have HC:Aside ((af S.P).length<24):=hc
      have HW0:Aside ((aI S.P P9).2.2.1≠0):=hw0
      have HNE:Aside (P9≠ay S.P):=hne
      obtain ⟨c9,PS⟩:∃c9,ay S.P=c9:=⟨_,rfl⟩
      obtain ⟨S1,hS1⟩:∃S1,dx S P9 o=S1:=⟨_,rfl⟩
      obtain ⟨r9,Yl⟩:∃r9,eY S=r9:=⟨_,rfl⟩
      have YO:Aside (ay S.P=c9):=PS
      have HR9:Aside (eY S=r9):=Yl
      have aeg:r9≤24:=by rw [←Yl];exact Nat.le_trans (Jd _ _) k.Hu
      rw [hS1] at HS Zz
      simp only [hS1,PS] at Wx
      simp only [Yl] at hR
      rw [PS] at hc1 hc24
      generalize allT S no nt 0=X at *
      clear hbad hgo hno hnt Qy Qx kk hS1 PS Yl hw0 hc ho hne HL
      go_upto_region 20 with (first
       |(go_at_call 36;refine Qe.mono ?_;rintro e w7 ⟨z1,z2,z3,rfl,k7⟩;have Ut:=hA _ k7)
       |(go_at_call 32;refine Ut.mono ?_;rintro e w8 ⟨rfl,b8⟩;have k8:=k7.below b8;have WR:=hR _ k8)
       |(go_at_call 40;refine WR.mono ?_;rintro e w9 ⟨rfl,b9⟩;have k9:=k8.below b9;have WW:=Wx _ k9)
       |(go_at_call 14;refine WW.mono ?_;rintro e YR ⟨rfl,k10⟩))
      clear Ut WR WW k7 k8 k9 b8 b9 Qe hA hR Wx k
      go_wp2_with fail
      go_loopg [19,20] j6 (fun g s19 _ wx=>∃(j:Nat) (S':KS),Aside (j+g=j6)∧s19=.int .i64 (j:Int)∧KC w wx m kb C9 S' (i+1+j)∧Aside (Rk S P9 o S')∧Aside (jF S'.W))
      case atStart=>exact ⟨0,S1,(show 0+j6=j6 by omega),rfl,k10,HS,Zz⟩
      case round=>
       clear k10 HS Zz S1
       obtain ⟨j,S2,HJ,rfl,k,HS,HW2⟩:=hrel
       have hb:=k.He
       have ael:j≤40:=by have:=HJ.out;omega
       by_cases hlt:(j:Int)<(j6:Int)
       ·rcases hsc2.keep hb with h0|⟨blk,off,rfl,hbl,hss⟩
        ·exfalso;omega
        obtain ⟨⟨c0,c1,c2,c3,c4,c5,c6⟩,hok⟩:=hss j (by omega)
        have hsl:Aside ((q2 j).s.length≤100∧(q2 j).t.length≤60):=hS2.2 j (by omega)
        have UF:Aside (-9223372036854775808≤(q2 j).c∧(q2 j).c≤9223372036854775807):=Ib (hcw2 j (by omega))
        have hoa:Aside ((Lit.int .i64 (q2 j).a).wf=true):=hok.a
        have Y6:Aside ((q2 j).b≤9223372036854775807):=hok.b
        clear hss hok hb
        generalize (q2 j).what=W at *
        generalize (q2 j).p=p at *
        generalize (q2 j).a=a at *
        generalize (q2 j).b=b at *
        generalize (q2 j).c=c at *
        generalize (q2 j).s=s at *
        generalize (q2 j).t=t at *
        go_upto_region 24 with fail
        have bV:Below wr.heap.size wr (wr.alloc (.cells #[.int .i64 W,.int .i64 p,.int .i64 a,.int .i64 b,.int .i64 c,tx s,tx t] 71)):=(Below.refl _ _).alloc (Nat.le_refl _) _
        have hn1:=mJ wr (.cells #[.int .i64 W,.int .i64 p,.int .i64 a,.int .i64 b,.int .i64 c,tx s,tx t] 71)
        obtain ⟨V,hV⟩:∃V,wr.alloc (.cells #[.int .i64 W,.int .i64 p,.int .i64 a,.int .i64 b,.int .i64 c,tx s,tx t] 71)=V:=⟨_,rfl⟩
        obtain ⟨x0,hx0⟩:∃x0,wr.heap.size=x0:=⟨_,rfl⟩
        have WI:wr.heap.size≤x0:=Nat.le_of_eq hx0
        rw [hV] at bV hn1 ⊢
        rw [hx0] at hn1 ⊢
        have d0:V.cell? ⟨x0,0,none⟩=some (.int .i64 W):=by rw [cell_of_row V x0 0 _ _ _ hn1];rfl
        have d1:V.cell? ⟨x0,1,none⟩=some (.int .i64 p):=by rw [cell_of_row V x0 1 _ _ _ hn1];rfl
        have f1:V.frozen? ⟨x0,1,none⟩=false:=by simp [World.frozen?,hn1]
        clear c0 c1 c2 c3 c4 c5 c6 hV hx0
        have kV:=k.below bV
        by_cases w5:W<5
        ·go_wp2_with fail
         go_roundg (gk-1)
         case measure=>have:=HJ.out;omega
         case rel=>exact ⟨j+1,S2,(show j+1+(gk-1)=j6 by have:=HJ.out;omega),by go_num,kV.more (by omega),HS,HW2⟩
        by_cases WE:W=11
        ·subst WE
         go_wp2_with fail
         go_roundg (gk-1)
         case measure=>have:=HJ.out;omega
         case rel=>exact ⟨j+1,S2,(show j+1+(gk-1)=j6 by have:=HJ.out;omega),by go_num,kV.more (by omega),HS,HW2⟩
        by_cases Yf:W=12
        ·subst Yf
         go_wp2_with fail
         go_roundg (gk-1)
         case measure=>have:=HJ.out;omega
         case rel=>exact ⟨j+1,S2,(show j+1+(gk-1)=j6 by have:=HJ.out;omega),by go_num,kV.more (by omega),HS,HW2⟩
        have x11:(W == 11)=false:=by simpa using WE
        have x12:(W == 12)=false:=by simpa using Yf
        by_cases w16:16<W∧W≠25∧W≠26
        ·obtain ⟨h16,h25,h26⟩:=w16
         have x25:(W != 25)=true:=by simpa using h25
         have x26:(W != 26)=true:=by simpa using h26
         go_wp2_with fail
         go_roundg (gk-1)
         case measure=>have:=HJ.out;omega
         case rel=>exact ⟨j+1,S2,(show j+1+(gk-1)=j6 by have:=HJ.out;omega),by go_num,kV.more (by omega),HS,HW2⟩
        have HNW:Aside (¬(W<5∨W=11∨W=12∨16<W∧W≠25∧W≠26)):=fun z=>by
         rcases z with z|z|z|z
         ·exact w5 z
         ·exact WE z
         ·exact Yf z
         ·exact w16 z
        have aaB:Aside (¬16<W∨W=25∨W=26):=by
         show ¬16<W∨W=25∨W=26
         omega
        clear WE Yf w16 kV
        go_cut [129] (fun s9 wc=>s9=.bool false∧wc=V)
        case first=>
         rcases aaB.out with z|z|z
         ·go_wp2_with fail
          go_meet
          case rel=>exact ⟨rfl,rfl⟩
         ·subst z
          go_wp2_with fail
          go_meet
          case rel=>exact ⟨rfl,rfl⟩
         ·subst z
          go_wp2_with fail
          go_meet
          case rel=>exact ⟨rfl,rfl⟩
        case rest=>
         obtain ⟨rfl,hwc⟩:=hcut
         subst hwc
         go_upto_region 26 with fail
         have b2:Below wr.heap.size wr (wc.setCell ⟨x0,1,none⟩ (.int .i64 c9)):=bV.setCell WI _
         have hn2:=heap_setCell_same wc x0 1 (.int .i64 c9) _ _ _ hn1
         obtain ⟨V2,hV2⟩:∃V2,wc.setCell ⟨x0,1,none⟩ (.int .i64 c9)=V2:=⟨_,rfl⟩
         rw [hV2] at b2 hn2 ⊢
         obtain ⟨MC,k2,hm0,hm1,hm2,hm3,WN,hm5,hm6,hsub⟩:∃MC,KC w V2 m kb MC S2 (i+1+j)∧(x0,0,Value.int .i64 W)∈MC∧(x0,1,Value.int .i64 c9)∈MC∧(x0,2,Value.int .i64 a)∈MC∧(x0,3,Value.int .i64 b)∈MC∧(x0,4,Value.int .i64 c)∈MC∧(x0,5,tx s)∈MC∧(x0,6,tx t)∈MC∧∀y∈C9,y∈MC:=
          ⟨_,k.V9 b2 WI hn2,List.mem_append_left _ (kI rfl),List.mem_append_left _ (kI rfl),List.mem_append_left _ (kI rfl),List.mem_append_left _ (kI rfl),List.mem_append_left _ (kI rfl),List.mem_append_left _ (kI rfl),List.mem_append_left _ (kI rfl),fun y hy=>List.mem_append_right _ hy⟩
         have e0:=k2.at hm0
         have e1:=k2.at hm1
         have e2:=k2.at hm2
         have e3:=k2.at hm3
         have e4:=k2.at WN
         have e5:=k2.at hm5
         have e6:=k2.at hm6
         have HB:Aside (∀V S' q,KC w V m kb MC S' q→KC w V m kb C9 S' q):=fun V S' q kV=>kV.sub hsub
         have hcw:(Lit.int .i64 c9).wf=true:=CK ⟨by omega,hc24⟩
         have hP:=k2.call (by omega) ⟨W,c9,a,b,c,s,t⟩ ⟨hcw,hoa.out,Y6.out⟩ hsl.out.1 hsl.out.2
         have HV:Aside (∀er S',aX S2 c9 a b c s t W er S'→eY S'=r9+1→Rk S P9 o S'):=fun er S' r e=>by
          obtain ⟨_,k0⟩:=HK0.out
          have r':aX S2 (ay S.P) a b c s t W er S':=by rw [YO.out];exact r
          exact HS.out.call k0 k2 (by omega) r' HNW.out (by rw [e,HR9.out])
         clear bV hn1 hn2 hV2 d0 d1 f1 b2 hm0 hm1 hm2 hm3 WN hm5 hm6 hsub HNW WI hcw k
         go_upto_region 27 with (go_at_call 33;refine hP.mono ?_;rintro e w9 ⟨er,S',rfl,hR,k9⟩)
         have ML:=k9.runs
         have HW':Aside (jF S'.W):=hR.Jq HW2.out UF.out
         have Zx:Aside (eY S'=r9+1→Rk S P9 o S'):=HV.out er S' hR
         clear HV hR hP k2 e0 e1 e2 e3 e4 e5 e6 HW2 HS
         by_cases hE:eY S'=r9+1
         ·have HS':Aside (Rk S P9 o S'):=Zx.out hE
          rw [hE] at ML
          have hcast:((r9+1:Nat):Int)=(r9:Int)+1:=by omega
          rw [hcast] at ML
          clear hE Zx hcast
          go_wp2_with (go_at_call 40;refine ML.mono ?_;rintro e YR ⟨rfl,b10⟩;have k10:=k9.below b10)
          go_roundg (gk-1)
          case measure=>have:=HJ.out;omega
          case rel=>exact ⟨j+1,S',(show j+1+(gk-1)=j6 by have:=HJ.out;omega),by go_num,HB.out _ _ _ k10,HS',HW'⟩
         ·obtain ⟨r2,hr2⟩:∃r2,eY S'=r2:=⟨_,rfl⟩
          rw [hr2] at hE ML
          have hne:((r2:Int) == (r9:Int)+1)=false:=by simp;omega
          clear hr2 hE Zx
          go_wp2_with (go_at_call 40;refine ML.mono ?_;rintro e YR ⟨rfl,b10⟩;have k10:=k9.below b10)
          go_ret
          exact ⟨rfl,k10.He⟩
       ·have Zf:S2.O c9=some ⟨S.Ts.length,o.m,o.dF⟩:=by rw [←YO.out];exact HS.out.child
        have hpO:(aM S2 c9 ⟨S.Ts.length,o.m,o.dF⟩ 7).O P9=some o:=by
         rw [PL (by rw [←YO.out];exact HNE.out),HS.out.parent HNE.out];exact HO.out
        have hE:=k.exit (by omega) Zf (by omega) 7
        have Qe:=fun V (kV:KC w V m kb C9 (aM S2 c9 ⟨S.Ts.length,o.m,o.dF⟩ 7) (i+1+j))=>kV.wait hpO
        have HE:Aside (∀V,KC w V m kb C9 (aM S2 c9 ⟨S.Ts.length,o.m,o.dF⟩ 7) (i+1+j)→aI (aM S2 c9 ⟨S.Ts.length,o.m,o.dF⟩ 7).P P9=(c9,7,0,S.P)∧Vr S ((aM S2 c9 ⟨S.Ts.length,o.m,o.dF⟩ 7).procs S.P)):=fun V kV=>by
         obtain ⟨_,k0⟩:=HK0.out
         have h9:=YO.out
         subst h9
         exact HS.out.ends k0 k (by omega) HO.out HC.out HW0.out Zf kV
        have WZ:Aside ((aM S2 c9 ⟨S.Ts.length,o.m,o.dF⟩ 7).n<100):=by
         show S2.n<100
         rw [HS.out.rd.n];exact HN.out
        have HW3:Aside (jF (aM S2 c9 ⟨S.Ts.length,o.m,o.dF⟩ 7).W):=HW2.out
        clear Zf hpO
        generalize aM S2 c9 ⟨S.Ts.length,o.m,o.dF⟩ 7=S3 at *
        go_upto_region 31 with (go_at_call 20;refine hE.mono ?_;rintro e w7 ⟨rfl,k7⟩)
        obtain ⟨Qc,hv9⟩:=HE.out _ k7
        have Yq:=Qe _ k7
        rw [Qc] at Yq
        dsimp only at Yq
        rw [aD] at Yq
        have Ut:=fun V (kV:KC w V m kb C9 (S3.procs S.P) (i+1+j))=>HX.out (S3.procs S.P) V (i+1+j) hv9 HW3.out WZ.out kV
        clear Qc hv9 Qe HE hE k7 k HS HW2
        go_wp2_with (first
         |(go_at_call 36;refine Yq.mono ?_;rintro e w8 ⟨rfl,k8⟩;have hA8:=Ut _ k8)
         |(go_at_call 32;refine hA8.mono ?_;rintro e w9 ⟨rfl,b9⟩;have k9:=k8.below b9))
        go_ret
        exact ⟨rfl,k9.He⟩
     ·have hbf:S.O P9=none∨∃o,S.O P9=some o∧24≤(af S.P).length:=by
       cases ho:S.O P9 with
       |none=>exact .inl rfl
       |some o=>exact .inr ⟨o,rfl,Nat.le_of_not_lt fun z=>Zc ⟨o,ho,z⟩⟩
      have Wx:=fun V (kV:KC w V m kb C9 S i)=>kV.O4 hpw hbf
      generalize allT S no nt 0=X at *
      generalize eY S=r9 at *
      have hA2:=hA
      clear Zc hbad hgo hno hnt Qy Qx hbf HL
      go_upto_region 18 with (first
       |(go_at_call 36;refine Qe.mono ?_;rintro e w7 ⟨z1,z2,z3,rfl,k7⟩;have Ut:=hA _ k7)
       |(go_at_call 32;refine Ut.mono ?_;rintro e w8 ⟨rfl,b8⟩;have k8:=k7.below b8;have WR:=hR _ k8)
       |(go_at_call 40;refine WR.mono ?_;rintro e w9 ⟨rfl,b9⟩;have k9:=k8.below b9;have WW:=Wx _ k9)
       |(go_at_call 14;refine WW.mono ?_;rintro e YR ⟨z4,rfl,k10⟩))
      have aaq:=hA2 _ k10
      clear hA2 Ut WR WW k7 k8 k9 b8 b9 Qe hA hR Wx k
      go_wp2_with (go_at_call 32;refine aaq.mono ?_;rintro e WE ⟨rfl,b11⟩;have k11:=k10.below b11)
      go_ret
      exact ⟨rfl,k11.He⟩
end Go.Proofs.YtcfhanoekniaaaaGreatDoor
namespace Go.Proofs.YtcfhanoekniaaaaGreatDoor
open Go.ChangeShapes Go.WideShapes Go.ChangeAt Go.RowKit
def gy:List (String×DataW Unit):=Rows.kernelRoundsRow.laid.filter fun x=>x.2.handleName?.isNone
theorem nT {W:World}(h:laidMetH Tryz.prog Rows.kernelRoundsRow.laid W):laidMet Tryz.prog gy W∧handlesMet Tryz.prog [("errors.errorType",Rows.laid_errors_errorType)] W:=h
def qK:String:=((gy.drop 1).map (·.1)).headD ""
theorem yQ:Tryz.prog.globalNamed qK=some 2:=by kernel_rfl
theorem yO:gy=gy.headD ("",.agg []) :: (qK,Rows.laid_math_bits_deBruijn64tab) :: gy.drop 2:=by kernel_rfl
theorem F4 {W:World}(h:laidMetH Tryz.prog Rows.kernelRoundsRow.laid W):mi W:=by
 have h1:=(nT h).1
 rw [yO] at h1
 exact FW yQ (nW h1)
theorem Cj:gy=gy.headD ("",.agg []) :: (qK,Rows.laid_math_bits_deBruijn64tab) :: (Bw,Lib.tabData .u64 Lib.pow10Tab) :: gy.drop 3:=by kernel_rfl
theorem F6 {W:World}(h:laidMetH Tryz.prog Rows.kernelRoundsRow.laid W):Pow W:=by
 have h1:=(nT h).1
 rw [Cj] at h1
 exact Lib.tabIs_of_head zI (t:=441) (e:=399) (n:=20) (by kernel_rfl) Tryz.underlying441 Tryz.underlying399 (by kernel_rfl) (by kernel_rfl) (nW (nW h1))
theorem F7 (os:Os) (args:Array Value):laidMetH Tryz.prog Rows.kernelRoundsRow.laid (({ World.holding Tryz.prog os ⟨#[],#[],[]⟩ with heap:=((((((World.holding Tryz.prog os ⟨#[],#[],[]⟩).heap.modify 0 fun | .cells _ t frozen=>.cells #[fJ] t frozen|o=>o).modify 3 fun | .cells _ t frozen=>.cells (mH Rows.laid_internal_strconv_uint64pow10) t frozen|o=>o).modify 1 fun | .cells _ t frozen=>.cells (mH Rows.laid_math_bits_deBruijn32tab) t frozen|o=>o).modify 2 fun | .cells _ t frozen=>.cells (mH Rows.laid_math_bits_deBruijn64tab) t frozen|o=>o).modify 6 fun | .cells _ t frozen=>.cells (vO Rows.laid_unicode_utf8_acceptRanges) t frozen|o=>o).modify 5 fun | .cells _ t frozen=>.cells (vO Rows.laid_unicode_utf8_first) t frozen|o=>o }:World).forCall (fun _ _=>0) ⟨#[],args,[]⟩).memory:=
 laidMetH_of_parts (laidMet_of_run' 8 (by kernel_rfl) (by kernel_rfl)) (by kernel_rfl)
theorem yP (os:Os) (started:os.Started) (H:Type) (enc:TypeId×Value→H) :
 ReturnsInHanded {} Tryz.checked os 8 .any (fun w args=>(Rows.kernelRoundsSpec.pre enc Tryz.prog Tryz.f8 [] false w args∧laidMetH Tryz.prog Rows.kernelRoundsRow.laid w)∧sizedMet enc Tryz.prog Tryz.f8 (OpenSpec.ofChange Rows.kernelRoundsSpec) false w args)
  (Rows.kernelRoundsSpec.post enc Tryz.prog Tryz.f8 false true false false):=by
 refine qX (C:=Tryz.checked) (X:=fun w _=>laidMetH Tryz.prog Rows.kernelRoundsRow.laid w) (fun _ _ _ hh h=>h.of_heap hh) Rv started (by kernel_rfl) Tryz.func8
  (ChangeSpec.witness_at (enc:=enc) (C:=Tryz.checked) (os:=os) (X:=fun w _=>laidMetH Tryz.prog Rows.kernelRoundsRow.laid w) false ({ World.holding Tryz.prog os ⟨#[],#[],[]⟩ with heap:=((((((World.holding Tryz.prog os ⟨#[],#[],[]⟩).heap.modify 0 fun | .cells _ t frozen=>.cells #[fJ] t frozen|o=>o).modify 3 fun | .cells _ t frozen=>.cells (mH Rows.laid_internal_strconv_uint64pow10) t frozen|o=>o).modify 1 fun | .cells _ t frozen=>.cells (mH Rows.laid_math_bits_deBruijn32tab) t frozen|o=>o).modify 2 fun | .cells _ t frozen=>.cells (mH Rows.laid_math_bits_deBruijn64tab) t frozen|o=>o).modify 6 fun | .cells _ t frozen=>.cells (vO Rows.laid_unicode_utf8_acceptRanges) t frozen|o=>o).modify 5 fun | .cells _ t frozen=>.cells (vO Rows.laid_unicode_utf8_first) t frozen|o=>o }:World) #[.int .i64 0,.slice none 0 0,.int .i64 0,.slice none 0 0] 8 rfl (by kernel_rfl) (by kernel_rfl) (by kernel_rfl) (by kernel_rfl) (by kernel_rfl) (F7 os _)) ?_
 intro W base args ds gs before hval0 hW hL hsh
 have hval:∀(j:Nat) t v,Tryz.f8.params[j]? = some t→args[j]? = some v→Value.okWide Tryz.prog W .any base t v:=hval0
 have hW':=hW
 obtain ⟨p,q,YG,hV0,rfl,hfz,hnd⟩:=hW
 have hA:DataW.TrodAll enc Tryz.prog W 0 (fun _=>true) true Tryz.f8.params.toList args.toList ds p:=YG
 have hV:DataW.TrodVars enc Tryz.prog W (fun _=>true) [] gs q:=hV0
 rw [Tryz.params8] at hA hval
 obtain ⟨v0,vs0,d0,ds0,p0,q0,hargs,rfl,rfl,h0,r0⟩:=trodAll_cons hA
 obtain ⟨v1,vs1,d1,ds1,p1,q1,rfl,rfl,rfl,h1,r1⟩:=trodAll_cons r0
 obtain ⟨v2,vs2,d2,ds2,p2,q2,rfl,rfl,rfl,h2,r2⟩:=trodAll_cons r1
 obtain ⟨v3,vs3,d3,ds3,p3,q3,rfl,rfl,rfl,h3,r3⟩:=trodAll_cons r2
 obtain ⟨rfl,rfl,rfl⟩:=trodAll_nil r3
 obtain rfl:args=#[v0,v1,v2,v3]:=by cases args;simp_all
 obtain ⟨n0,rfl,rfl,rfl,hw0⟩:=open_int Tryz.underlying3 (hval 0 3 v0 rfl rfl) h0
 obtain ⟨a1,jv,vz,rfl⟩:=okWide_slice Tryz.underlying66 (hval 1 66 v1 rfl rfl)
 have k1:=h1
 have lt1:∀x∈p1,x.block<W.heap.size:=by obtain ⟨m,hm⟩:=k1;exact DataW.trod_lt m _ _ _ hm
 obtain ⟨ab8,hf1⟩:=h1
 obtain ⟨YV,Xo,hc1⟩:=uT (by simpa [Value.cells] using hf1)
 obtain ⟨n2,rfl,rfl,rfl,hw2⟩:=open_int Tryz.underlying3 (hval 2 3 v2 rfl rfl) h2
 obtain ⟨a3,Qw,UK,rfl⟩:=okWide_slice Tryz.underlying66 (hval 3 66 v3 rfl rfl)
 have k3:=h3
 have lt3:∀x∈p3,x.block<W.heap.size:=by obtain ⟨m,hm⟩:=k3;exact DataW.trod_lt m _ _ _ hm
 obtain ⟨ab7,hf3⟩:=h3
 obtain ⟨YU,Xn,hc3⟩:=uT (by simpa [Value.cells] using hf3)
 have hg:=K8 (nT hL).2
 have hT:=F4 hL
 have hpw:=F6 hL
 obtain ⟨m,hm⟩:=KJ hsh
 obtain ⟨rfl,rfl⟩:gs=[]∧q=[]:=by
  cases gs with
  |nil=>exact ⟨rfl,hV⟩
  |cons g r=>exact absurd hV (by intro h;cases h)
 have key:Calls Tryz.prog 8 #[.int .i64 n0,.slice a1 jv vz,.int .i64 n2,.slice a3 Qw UK] W fun e w'=>e=.returned (.bool true)∧Below W.heap.size W w':=by
  by_cases hS:og YV jv∧og YU Qw
  ·exact Ck n0 a1 jv vz YV n2 a3 Qw UK YU W Xo hc1 Xn hc3 hS.1 hS.2 m hm hg hT hpw
  ·exact ED n0 a1 jv vz YV n2 a3 Qw UK YU W Xo Xn hS
 refine key.mono fun e W' ⟨he,He⟩=>?_
 subst he
 exact ⟨_,rfl,_,_,_,[],_,[],hW',trodAll_mk1 (shut_bool Tryz.underlying4 _),(trodAll_cons_mk (shut_int Tryz.underlying3 hw0) (trodAll_cons_mk (Below.trod laidOut (by kernel_rfl) (of_decide_eq_true (by kernel_rfl)) k1 He lt1) (trodAll_cons_mk (shut_int Tryz.underlying3 hw2) (trodAll_cons_mk (Below.trod laidOut (by kernel_rfl) (of_decide_eq_true (by kernel_rfl)) k3 He lt3) trodAll_mk0)))),rfl,He.frame _,fun h=>by cases h⟩
end Go.Proofs.YtcfhanoekniaaaaGreatDoor

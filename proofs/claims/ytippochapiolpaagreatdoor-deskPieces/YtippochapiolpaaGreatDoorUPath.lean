/- The library's SplitSeq at a slash: its rounds, by its Go text. -/
import Derived.Test.YtippochapiolpaaGreatDoorUName
import Derived.Test.YtippochapiolpaaGreatDoorWood
import Derived.Test.YtippochapiolpaaGreatDoorWAbs
import Derived.Sort.LoopGhostIn
import Derived.OneCell
import Derived.Test.YtippochapiolpaaGreatDoorShelfU
set_option maxHeartbeats 4000000
set_option maxRecDepth 100000
namespace Go.Proofs.YtippochapiolpaaGreatDoor
open Go.RowKit Go.Shelf
attribute [local go_sem] Oper.semAt_some
theorem fQ {W:World}{B:Nat}{v:Value}{t:TypeId}(h:W.heap[B]? = some (.cells #[v] t)):W.cell? ⟨B,0,none⟩=some v∧W.frozen? ⟨B,0,none⟩=false:=by
 constructor
 ·rw [cell_of_row W B 0 _ _ _ h];rfl
 ·simp [World.frozen?,h]
theorem yA {W:World}{B:Nat}{v:Value}{t:TypeId}(u:Value) (h:W.heap[B]? = some (.cells #[v] t)):(W.setCell ⟨B,0,none⟩ u).heap[B]? = some (.cells #[u] t):=one_setCell h
theorem PH {W1 W:World}{B:Nat}(h:W1.grownBy W (some B)) (u:Value):W1.grownBy (W.setCell ⟨B,0,none⟩ u) (some B):=
 ⟨h.os,h.tape,h.output,by simpa using h.size,fun i hi hne=>(Below.heap_setCell _ _ _ _ (fun e=>hne (by rw [e]))).trans (h.block i hi hne)⟩
theorem wV {p:List Nm}{x:Nm}{t:List Nm}(h:p.all isName=true) (hx:isName x=true):(p ++ [x]).all isName=true∧p ++ x :: t=(p ++ [x]) ++ t:=⟨by rw [List.all_append,h];simp [hx],by simp⟩
theorem He {p:List Nm}{x:Nm}{t:List Nm}(hx:isName x=false):(p ++ x :: t).all isName=false:=by rw [List.all_append];simp [hx]
theorem XG (l Bs Bp Bv:Nat) (z0:List UInt8) (hz:z0.length<100000) (W1:World) (hBp:Bp≠Bs) (hBv:Bv≠Bs)
 (c1:W1.cell? ⟨Bp,0,none⟩=some (.string ⟨#[47]⟩)) (c2:W1.heap[Bs]? = some (.cells #[tx z0] 9)) (c3:W1.cell? ⟨Bv,0,none⟩=some (.int .i64 0)) (stop:World→Prop)
 (hI:∀z W,Calls Tryz.prog 123 #[tx z,.string ⟨#[47]⟩] W fun e w'=>e=.returned (.int .i64 (Lib.indexByte z 47))∧w'=W)
 (hY:∀(x:List UInt8) W,x.length<100000→W1.grownBy W (some Bs)→YieldAt Fence.wide 2 Tryz.prog l #[tx x] W fun e W'=>(isName x=true∧e=.returned (.bool true)∧W'=W)∨(isName x=false∧e=.returned (.bool false)∧stop W')) :
 CallsIn Fence.wide 3 Tryz.prog 121 #[.func (.yield l) #[] #[],.pointer (some ⟨Bp,0,none⟩),.pointer (some ⟨Bs,0,none⟩),.pointer (some ⟨Bv,0,none⟩)] W1 fun e W'=>(∃v,e=.returned v)∧(((parts z0).all isName=true∧W1.grownBy W' (some Bs))∨((parts z0).all isName=false∧stop W')):=by
 have hcell:∀ {W:World}{B:Nat}{v:Value},B≠Bs→W1.cell? ⟨B,0,none⟩=some v→W1.grownBy W (some Bs)→W.cell? ⟨B,0,none⟩=some v:=fun {W B v} hne hc hg=>by
  have hlt:B<W1.heap.size:=World.block_lt_of_cell? W1 _ hc
  rw [World.cell?_of_block (w:=W1) (a:=⟨B,0,none⟩) (hg.block B hlt (fun e=>hne (Option.some.inj e)))];exact hc
 have hf:Fence.wide.fn 123:=trivial
 refine callsIn_of_wp Tryz.func121 rfl trivial ?_ rfl
 simp only [Tryz.ntmps121,List.size_toArray,List.length_cons,List.length_nil,Nat.reduceAdd,Nat.reduceSub,Array.replicate_succ,Array.replicate_zero,List.push_toArray,List.append_toArray,List.nil_append,List.cons_append]
 gi_wp2
 gi_loopg [7] z0.length (fun mm _ wr=>∃(pre:List Nm) (rest:List UInt8),wr.heap[Bs]? = some (.cells #[tx rest] 9)∧W1.grownBy wr (some Bs)∧parts z0=pre ++ parts rest∧pre.all isName=true∧rest.length≤z0.length∧mm=rest.length)
 case atStart=>exact ⟨[],z0,c2,⟨rfl,rfl,rfl,Nat.le_refl _,fun _ _ _=>rfl⟩,rfl,rfl,Nat.le_refl _,rfl⟩
 case round=>
  obtain ⟨pre,rest,hbx,hg,hp,ha,hle,hmm⟩:=hrel
  have d1:=hcell hBp c1 hg
  have d3:=hcell hBv c3 hg
  obtain ⟨d2,d2f⟩:=fQ hbx
  have hIx:=callsIn_wide (n:=2) |>.2 (hI rest wr)
  by_cases hm:Lib.indexByte rest 47=-1
  ·rw [hm] at hIx
   rw [Am hm] at hp
   obtain ⟨fn,tmps,assign,body,hy,hR⟩:=hY rest wr (by omega) hg
   clear hm
   gi_wp2_with (gi_at_call 123;refine hIx.mono ?_;rintro e w' ⟨rfl,hw'⟩;subst w')
   refine hR.mono ?_
   rintro e W3 (⟨hx,rfl,h3⟩|⟨hx,rfl,hst⟩)
   ·subst W3
    gi_wp2
    go_end0
    exact ⟨⟨_,rfl⟩,.inl ⟨by rw [hp];exact (wV (t:=[]) ha hx).1,hg⟩⟩
   ·gi_wp2
    go_end0
    exact ⟨⟨_,rfl⟩,.inr ⟨by rw [hp];exact He hx,hst⟩⟩
  ·have hge:=Lib.indexByte_ge rest 47
   obtain ⟨i,hi⟩:∃i:Nat,Lib.indexByte rest 47=i:=⟨(Lib.indexByte rest 47).toNat,by omega⟩
   rw [hi] at hIx
   obtain ⟨hil,he⟩:=Cu hi
   rw [he] at hp
   have s1:=DZ rest i (by omega)
   have s2:=uE rest (i+1) (by omega)
   have hng:¬(i:Int)<0:=by omega
   obtain ⟨fn,tmps,assign,body,hy,hR⟩:=hY (rest.take i) wr (by simp;omega) hg
   gi_wp2_with (gi_at_call 123;refine hIx.mono ?_;rintro e w' ⟨rfl,hw'⟩;subst w')
   refine hR.mono ?_
   rintro e W3 (⟨hx,rfl,h3⟩|⟨hx,rfl,hst⟩)
   ·subst W3
    gi_wp2
    gi_roundg (rest.length-(i+1))
    case measure=>omega
    case rel=>
     have hex:(⟨rest.toArray⟩:ByteArray).extract (i+1) rest.length=⟨(rest.drop (i+1)).toArray⟩:=by
      apply ByteArray.ext
      simp only [ByteArray.data_extract,List.extract_toArray,List.extract]
      rw [List.take_of_length_le (by simp)]
     rw [hex]
     refine ⟨pre ++ [rest.take i],rest.drop (i+1),yA _ hbx,PH hg _,?_,?_,?_,?_⟩
     ·rw [hp];exact (wV ha hx).2
     ·exact (wV (t:=[]) ha hx).1
     ·simp;omega
     ·simp
   ·gi_wp2
    refine bodyPost_ret (results_none rfl _ _ _) rfl ?_
    exact ⟨⟨_,rfl⟩,.inr ⟨by rw [hp];exact He hx,hst⟩⟩
end Go.Proofs.YtippochapiolpaaGreatDoor
namespace Go.Proofs.YtippochapiolpaaGreatDoor
open Go.RowKit Go.Shelf
attribute [local go_sem] Oper.semAt_some
theorem zI (z:List UInt8) (W:World):Calls Tryz.prog 123 #[tx z,.string ⟨#[47]⟩] W fun e w'=>e=.returned (.int .i64 (Lib.indexByte z 47))∧w'=W:=
 Any.strings_Index_one Tryz.indexSL ⟨z.toArray⟩ 47 W
theorem vI (z:List UInt8) (W:World):Calls Tryz.prog 332 #[tx z,.string ⟨#[47]⟩] W fun e w'=>e=.returned (.tuple #[tx (Lib.trimPrefix z [47]),.bool (Lib.hasPrefix z [47])])∧w'=W:=
 Any.strings_CutPrefix Tryz.cutPrefixL ⟨z.toArray⟩ ⟨#[47]⟩ W
theorem EZ {q:List UInt8}(h:q≠[]):(dW (47 :: q)).isSome=(parts q).all isName:=by
 have h0:(47 :: q)≠[47]:=fun e=>h (by injection e)
 unfold dW
 rw [if_neg h0,iw]
 cases e:parts q with
 |nil=>exact absurd e (uX q)
 |cons x t=>
  simp only
  cases (x :: t).all isName<;>rfl
theorem Iq {p:List UInt8}(h:Lib.hasPrefix p [47]=false):dW p=none:=by
 cases hn:dW p with
 |none=>rfl
 |some l=>
  by_cases h0:p=[47]
  ·subst h0;simp [Lib.hasPrefix,List.isPrefixOf] at h
  ·obtain ⟨q,rfl,_⟩:=lF hn h0
   simp [Lib.hasPrefix,List.isPrefixOf] at h
theorem WE (W:World) (l:Nat) (o o':Obj) (h:W.heap[l]? = some o):(W.putObj l o').putObj l o=W:=by
 obtain ⟨hl,he⟩:=Array.getElem?_eq_some_iff.1 h
 simp only [World.putObj]
 congr 1
 apply Array.ext
 ·simp
 ·intro i h1 h2
  by_cases e:i=l
  ·subst e;simp [he]
  ·simp only [Array.setIfInBounds_setIfInBounds]
   exact Array.getElem_setIfInBounds_ne h2 (Ne.symm e)
theorem Gl {P:Program}{g:Operand}{ps:Array Tmp}{assign body:Code}{Q:Exit→Act→World→Prop}{a:Act}{w:World}{gf n D:Nat}{lb:Array Value}
 (hD:w.heap.size=D) (hn:1≤n) (hg:a.eval g=.func (.func gf) #[] lb) (eg:∀args w,(callFunc gf args).run P w=.ok (.enter gf args) w)
 (h:∀(fn:FuncId) (rc:LoopState→Option Code→Loop) (W1:World),(∀st pe,rc st pe={ state:=st,pending:=pe,fn:=fn,tmps:=a.tmps,params:=ps,assign:=assign,body:=body,defers:=D })→
   W1=(w.alloc (.deferred (some []))).alloc (.loop (rc .ready none))→
   CallsIn Fence.wide (n-1) P gf (#[.func (.yield (D+1)) #[] #[]] ++ lb) W1 fun e W'=>(∃v,e=.returned v)∧
    ((W'.heap[D+1]? = some (.loop (rc .ready none))∧Q .normal { a with defers:={ target:=.collected D,args:=#[] } :: a.defers } (W'.putObj (D+1) (.loop (rc .exhausted none))))∨
     (W'.heap[D+1]? = some (.loop (rc .done (some .ret)))∧Code.ret.wpIn Fence.wide n P Q { a with defers:={ target:=.collected D,args:=#[] } :: a.defers } (W'.putObj (D+1) (.loop (rc .exhausted (some .ret))))))) :
 (Code.rangeFunc g ps assign body).wpIn Fence.wide n P Q a w:=by
 subst hD
 refine wpIn_rangeFunc ?_
 intro fn _
 have hro:Fence.wide.round=none:=rfl
 rw [hro]
 obtain ⟨W1,hW1⟩:∃W1,(w.alloc (.deferred (some []))).alloc (.loop { state:=.ready,pending:=none,fn:=fn,tmps:=a.tmps,params:=ps,assign:=assign,body:=body,defers:=w.heap.size })=W1:=⟨_,rfl⟩
 have h':=h fn (fun st pe=>{ state:=st,pending:=pe,fn:=fn,tmps:=a.tmps,params:=ps,assign:=assign,body:=body,defers:=w.heap.size }) W1 (fun _ _=>rfl) hW1.symm
 have hen:=run_enterLoop_outer (P:=P) (w:=w) fn a.tmps ps assign body
 rw [hW1] at hen
 refine ⟨w.heap.size+1,[{ target:=.collected w.heap.size,args:=#[] }],W1,{ target:=.fn (.func gf) lb,args:=#[.func (.yield (w.heap.size+1)) #[] #[]] },W1,gf,#[.func (.yield (w.heap.size+1)) #[] #[]] ++ lb,W1,?_,?_,?_,?_,?_,?_⟩
 ·exact hen
 ·simp only [resolve,hg]
  simp [go_sem]
 ·intro f' _
  trivial
 ·simp [invoke,go_sem,eg]
 ·exact fun _=>hn
 ·refine h'.mono ?_
  rintro e W' ⟨⟨v,rfl⟩,⟨hl,hq⟩|⟨hl,hq⟩⟩
  ·have e:=run_endLoop (P:=P) hl (by simp)
   exact ⟨none,_,e,hq⟩
  ·have e:=run_endLoop (P:=P) hl (by simp)
   exact ⟨some .ret,_,e,hq⟩
def EJ (L:Nat) (bz dn:Obj) (W:World) (R:Ending→World→Prop):Exit→Act→World→Prop
 |.normal,_,W3=>W3=W.putObj L bz∧R (.returned (.bool true)) W
 |.ret,_,W3=>W3.heap[L]? = some bz∧R (.returned (.bool false)) (W3.putObj L dn)
 |_,_,_=>False
theorem Sr {P:Program}{L m D:Nat}{fn:FuncId}{tm:Array Value}{ps:Array Tmp}{assign body:Code}{rc:LoopState→Option Code→Loop}{W:World}{args:Array Value}{R:Ending→World→Prop}
 (hrc:∀st pe,rc st pe={ state:=st,pending:=pe,fn:=fn,tmps:=tm,params:=ps,assign:=assign,body:=body,defers:=D }) (hl:W.heap[L]? = some (.loop (rc .ready none))) (hs:args.size=ps.size)
 (h:assign.wpIn (Fence.wide.inRound L) m P (Exit.then (fun a1 w1=>w1=W∧body.wpIn (Fence.wide.inRound L) m P (EJ L (.loop (rc .busy none)) (.loop (rc .done (some .ret))) W R) a1 (W.putObj L (.loop (rc .busy none)))) (fun _ _ _=>False))
   { tmps:=(ps.zip args).foldl (fun t (p,v)=>t.setIfInBounds p v) tm,defers:=[] } W):YieldAt Fence.wide m P L args W R:=by
 have hlt:L<W.heap.size:=(Array.getElem?_eq_some_iff.1 hl).1
 rw [hrc] at hl
 refine ⟨_,_,_,_,run_yield hl hs,roundIn_of_wpIn trivial (wpIn_mono h ?_)⟩
 rintro e a1 w1 h1
 cases e<;>try exact h1
 obtain ⟨rfl,hb⟩:=h1
 refine ⟨_,run_beginRound hl rfl,?_⟩
 rw [hrc,hrc] at hb
 refine wpIn_mono hb ?_
 rintro e a3 W3 h3
 have hnew:(w1.putObj L (.loop { state:=.busy,pending:=none,fn:=fn,tmps:=tm,params:=ps,assign:=assign,body:=body,defers:=D })).heap[L]? = some (.loop { state:=.busy,pending:=none,fn:=fn,tmps:=tm,params:=ps,assign:=assign,body:=body,defers:=D }):=World.putObj_heap_same hlt
 cases e<;>try exact h3.elim
 ·obtain ⟨rfl,hR⟩:=h3
  refine ⟨_,_,run_endRound none hnew,?_⟩
  exact Eq.subst (motive:=fun X=>R (.returned (.bool true)) X) (WE w1 L _ _ hl).symm hR
 ·obtain ⟨hk,hR⟩:=h3
  exact ⟨_,_,run_endRound (some .ret) hk,hR⟩
theorem Fb (q:List UInt8) (hq:q≠[]) (hp:q.length<99999) (w:World) :
 Calls Tryz.prog 298 #[tx (47 :: q)] w fun e w'=>e=.returned (.bool ((parts q).all isName))∧Below w.heap.size w w':=by
 have hc:=vI (47 :: q)
 have e1:Lib.trimPrefix (47 :: q) [47]=q:=by simp [Lib.trimPrefix,Lib.hasPrefix,List.isPrefixOf]
 have e2:Lib.hasPrefix (47 :: q) [47]=true:=by simp [Lib.hasPrefix,List.isPrefixOf]
 rw [e1,e2] at hc
 have hqe:((47 :: q) == [47])=false:=by simp [hq]
 have f1:Fence.wide.fn 332:=trivial
 have f2:Fence.wide.fn 23:=trivial
 refine (callsIn_wide (n:=4)).1 ?_
 refine callsIn_of_wp_marks Tryz.func298 rfl trivial ?_ rfl
 simp only [Tryz.ntmps298,List.size_toArray,List.length_cons,List.length_nil,Nat.reduceAdd,Nat.reduceSub,Array.replicate_succ,Array.replicate_zero,List.push_toArray,List.append_toArray,List.nil_append,List.cons_append]
 gi_wp2_with (first
  |(gi_at_call 332;refine (callsIn_wide.2 (hc _)).mono ?_;rintro e w' ⟨rfl,hw'⟩;subst w')
  |(gi_at_call 23;refine (callsIn_wide.2 (Hu q _)).mono ?_;rintro e w' ⟨rfl,hw'⟩;subst w'))
 obtain ⟨W0,hW0⟩:∃W0,(((w.alloc (.cells #[.bool false] 4)).alloc (.cells #[tx q] 9)).alloc (.cells #[.string ⟨#[47]⟩] 9)).alloc (.cells #[.int .i64 0] 3)=W0:=⟨_,rfl⟩
 rw [hW0]
 obtain ⟨B,hB⟩:∃B,w.heap.size=B:=⟨_,rfl⟩
 have hsz:W0.heap.size=B+4:=by rw [←hW0,←hB];simp
 have hb0:Below B w W0:=by
  rw [←hW0,←hB]
  exact ((((Below.refl _ w).alloc (Nat.le_refl _) _).alloc (by simp) _).alloc (by simp;omega) _).alloc (by simp;omega) _
 have k0:W0.heap[B]? = some (.cells #[.bool false] 4):=by
  rw [←hW0,←hB,Below.heap_alloc _ _ _ (by simp;omega),Below.heap_alloc _ _ _ (by simp;omega),Below.heap_alloc _ _ _ (by simp)]
  exact World.alloc_heap_new _ _
 have k1:W0.heap[B+1]? = some (.cells #[tx q] 9):=by
  rw [←hW0,←hB,Below.heap_alloc _ _ _ (by simp),Below.heap_alloc _ _ _ (by simp)]
  have:=World.alloc_heap_new (w.alloc (.cells #[.bool false] 4)) (.cells #[tx q] 9)
  rwa [World.size_alloc] at this
 have k2:W0.heap[B+2]? = some (.cells #[.string ⟨#[47]⟩] 9):=by
  rw [←hW0,←hB,Below.heap_alloc _ _ _ (by simp)]
  have:=World.alloc_heap_new ((w.alloc (.cells #[.bool false] 4)).alloc (.cells #[tx q] 9)) (.cells #[.string ⟨#[47]⟩] 9)
  rwa [World.size_alloc,World.size_alloc] at this
 have k3:W0.heap[B+3]? = some (.cells #[.int .i64 0] 3):=by
  rw [←hW0,←hB]
  have:=World.alloc_heap_new (((w.alloc (.cells #[.bool false] 4)).alloc (.cells #[tx q] 9)).alloc (.cells #[.string ⟨#[47]⟩] 9)) (.cells #[.int .i64 0] 3)
  rwa [World.size_alloc,World.size_alloc,World.size_alloc] at this
 rw [hB]
 refine Gl (D:=B+4) hsz (by omega) rfl (enters_of Tryz.func121 (by kernel_rfl) rfl) ?_
 intro fn rc W1 hrc hW1
 have s1:W1.heap.size=B+6:=by rw [hW1];simp [hsz]
 have hold:∀i,i<B+4→W1.heap[i]? = W0.heap[i]? := fun i hi=>by
  rw [hW1,Below.heap_alloc _ _ _ (by simp [hsz];omega),Below.heap_alloc _ _ _ (by rw [hsz];exact hi)]
 have d4:W1.heap[B+4]? = some (.deferred (some [])):=by
  rw [hW1,Below.heap_alloc _ _ _ (by simp [hsz]),←hsz];exact World.alloc_heap_new _ _
 have d5:W1.heap[B+4+1]? = some (.loop (rc .ready none)):=by
  rw [hW1]
  have:=World.alloc_heap_new (W0.alloc (.deferred (some []))) (.loop (rc .ready none))
  rwa [World.size_alloc,hsz] at this
 have hb1:Below B w W1:=by rw [hW1];exact (hb0.alloc (by rw [hsz];omega) _).alloc (by simp [hsz];omega) _
 have d0:=(hold B (by omega)).trans k0
 have d1:=(hold (B+1) (by omega)).trans k1
 have d2:=(hold (B+2) (by omega)).trans k2
 have d3:=(hold (B+3) (by omega)).trans k3
 have hkeep:∀ {W:World}{i:Nat}{o:Obj},W1.grownBy W (some (B+1))→i≠B+1→W1.heap[i]? = some o→W.heap[i]? = some o:=fun {W i o} hg hne hi=>
  (hg.block i (Array.getElem?_eq_some_iff.1 hi).1 (fun e=>hne (Option.some.inj e))).trans hi
 have hbW:∀ {W:World},W1.grownBy W (some (B+1))→Below B w W:=fun {W} hg=>hb1.grown hg (by rw [s1];omega) (fun k e=>by cases e;omega)
 refine (XG (B+4+1) (B+1) (B+1+1) (B+1+2) q (by omega) W1 (by omega) (by omega) (fQ d2).1 d1 (fQ d3).1
  (fun W'=>W'.heap[B+4+1]? = some (.loop (rc .done (some .ret)))∧W'.heap[B+4]? = some (.deferred (some []))∧W'.heap[B]? = some (.cells #[.bool false] 4)∧Below B w W') zI ?_).mono ?_
 ·intro x W hx hg
  have m5:=hkeep hg (by omega) d5
  have hl:B+4+1<W.heap.size:=(Array.getElem?_eq_some_iff.1 m5).1
  have m0:=hkeep hg (by omega) d0
  have m4:=hkeep hg (by omega) d4
  refine Sr hrc m5 rfl ?_
  have q0:(W.putObj (B+4+1) (.loop (rc .busy none))).heap[B]? = some (.cells #[.bool false] 4):=(World.putObj_heap_other (by omega)).trans m0
  have q4:(W.putObj (B+4+1) (.loop (rc .busy none))).heap[B+4]? = some (.deferred (some [])):=(World.putObj_heap_other (by omega)).trans m4
  have q5:(W.putObj (B+4+1) (.loop (rc .busy none))).heap[B+4+1]? = some (.loop (rc .busy none)):=World.putObj_heap_same hl
  have qb:Below B w (W.putObj (B+4+1) (.loop (rc .busy none))):=(hbW hg).grown (grownBy_putObj' _ _ _) (by omega) (fun k e=>by cases e;omega)
  obtain ⟨X,hX⟩:∃X,W.putObj (B+4+1) (.loop (rc .busy none))=X:=⟨_,rfl⟩
  rw [hX] at q0 q4 q5 qb
  obtain ⟨n1,n2⟩:=fQ q0
  have hnm:=Pv x hx X
  have hbe:∀R,EJ (B+4+1) (.loop (rc .busy none)) (.loop (rc .done (some .ret))) W R=fun (e:Exit) (_:Act) (W3:World)=>match e with
   |.normal=>W3=X∧R (.returned (.bool true)) W
   |.ret=>W3.heap[B+4+1]? = some (.loop (rc .busy none))∧R (.returned (.bool false)) (W3.putObj (B+4+1) (.loop (rc .done (some .ret))))
   |_=>False:=fun R=>by
   funext e a W3
   cases e<;>simp only [EJ,hX]
  rw [hX,hbe]
  generalize rc .busy none=rb at *
  generalize rc .done (some .ret)=rd at *
  cases hx2:isName x with
  |true=>
   rw [hx2] at hnm
   gi_wp2_with (refine ⟨trivial,?_⟩;gi_at_call 333;refine (CallsIn.inRound (B+4+1) (callsIn_wide.2 hnm)).mono ?_;rintro e w' ⟨rfl,hw'⟩;subst w')
   rfl
  |false=>
   rw [hx2] at hnm
   gi_wp2_with (refine ⟨trivial,?_⟩;gi_at_call 333;refine (CallsIn.inRound (B+4+1) (callsIn_wide.2 hnm)).mono ?_;rintro e w' ⟨rfl,hw'⟩;subst w')
   have hX5:B+4+1<X.heap.size:=(Array.getElem?_eq_some_iff.1 q5).1
   have r5:(X.setCell ⟨B,0,none⟩ (.bool false)).heap[B+4+1]? = some (.loop rb):=(Below.heap_setCell _ _ _ _ (by show B+4+1≠B;omega)).trans q5
   have r4:(X.setCell ⟨B,0,none⟩ (.bool false)).heap[B+4]? = some (.deferred (some [])):=(Below.heap_setCell _ _ _ _ (by show B+4≠B;omega)).trans q4
   refine ⟨r5,World.putObj_heap_same (by simpa using hX5),(World.putObj_heap_other (by omega)).trans r4,(World.putObj_heap_other (by omega)).trans (yA _ q0),?_⟩
   exact (qb.setCell (p:=⟨B,0,none⟩) (Nat.le_refl _) _).grown (grownBy_putObj' _ _ _) (by simp;omega) (fun k e=>by cases e;omega)
 ·rintro e W' ⟨hv,⟨ha,hg⟩|⟨ha,m5,m4,m0,hb⟩⟩
  ·have m5:=hkeep hg (by omega) d5
   refine ⟨hv,.inl ⟨m5,?_⟩⟩
   have m0:=hkeep hg (by omega) d0
   have m4:=hkeep hg (by omega) d4
   have hl:B+4+1<W'.heap.size:=(Array.getElem?_eq_some_iff.1 m5).1
   have q0:(W'.putObj (B+4+1) (.loop (rc .exhausted none))).heap[B]? = some (.cells #[.bool false] 4):=(World.putObj_heap_other (by omega)).trans m0
   have q4:(W'.putObj (B+4+1) (.loop (rc .exhausted none))).heap[B+4]? = some (.deferred (some [])):=(World.putObj_heap_other (by omega)).trans m4
   have qb:Below B w (W'.putObj (B+4+1) (.loop (rc .exhausted none))):=(hbW hg).grown (grownBy_putObj' _ _ _) (by omega) (fun k e=>by cases e;omega)
   generalize W'.putObj (B+4+1) (.loop (rc .exhausted none))=X at *
   obtain ⟨n1,n2⟩:=fQ q0
   gi_wp2
   have r0:=yA (.bool true) q0
   have r4:(X.setCell ⟨B,0,none⟩ (.bool true)).heap[B+4]? = some (.deferred (some [])):=(Below.heap_setCell _ _ _ _ (by show B+4≠B;omega)).trans q4
   have r1:=(fQ (W:=(X.setCell ⟨B,0,none⟩ (.bool true)).putObj (B+4) (.deferred none)) ((World.putObj_heap_other (by omega)).trans r0)).1
   refine ⟨by simp,.inl ⟨_,_,rfl,run_takeDeferred r4,?_⟩⟩
   refine ⟨.bool true,by simp [results,Tryz.results298,go_sem,r1],rfl,?_⟩
   exact (qb.setCell (p:=⟨B,0,none⟩) (Nat.le_refl _) _).grown (grownBy_putObj' _ _ _) (by simp;have:=(Array.getElem?_eq_some_iff.1 q4).1;omega) (fun k e=>by cases e;omega)
  ·refine ⟨hv,.inr ⟨m5,?_⟩⟩
   have hl:B+4+1<W'.heap.size:=(Array.getElem?_eq_some_iff.1 m5).1
   have q0:(W'.putObj (B+4+1) (.loop (rc .exhausted (some .ret)))).heap[B]? = some (.cells #[.bool false] 4):=(World.putObj_heap_other (by omega)).trans m0
   have q4:(W'.putObj (B+4+1) (.loop (rc .exhausted (some .ret)))).heap[B+4]? = some (.deferred (some [])):=(World.putObj_heap_other (by omega)).trans m4
   have qb:Below B w (W'.putObj (B+4+1) (.loop (rc .exhausted (some .ret)))):=hb.grown (grownBy_putObj' _ _ _) (by omega) (fun k e=>by cases e;omega)
   generalize W'.putObj (B+4+1) (.loop (rc .exhausted (some .ret)))=X at *
   obtain ⟨n1,n2⟩:=fQ q0
   gi_wp2
   have r1:=(fQ (W:=X.putObj (B+4) (.deferred none)) ((World.putObj_heap_other (by omega)).trans q0)).1
   refine ⟨by simp,.inl ⟨_,_,rfl,run_takeDeferred q4,?_⟩⟩
   refine ⟨.bool false,by simp [results,Tryz.results298,go_sem,r1],rfl,?_⟩
   exact qb.grown (grownBy_putObj' _ _ _) (by have:=(Array.getElem?_eq_some_iff.1 q4).1;omega) (fun k e=>by cases e;omega)
theorem CR (p:List UInt8) (hp:p.length<100000) (w:World) :
 Calls Tryz.prog 298 #[tx p] w fun e w'=>e=.returned (.bool (dW p).isSome)∧Below w.heap.size w w':=by
 by_cases h0:p=[47]
 ·subst h0
  go_enter Tryz.func298,Tryz.ntmps298
  go_wp2_with fail
  refine bodyPost_ret (v:=.bool true) (by simp [results,Tryz.results298,go_sem]) rfl ⟨rfl,?_⟩
  repeat first|exact Below.refl _ _|refine Below.alloc ?_ (by first|omega|(simp<;>omega)) _|refine Below.setCell ?_ (by first|omega|(simp<;>omega)) _
 ·by_cases h1:Lib.hasPrefix p [47]=true
  ·cases p with
   |nil=>simp [Lib.hasPrefix,List.isPrefixOf] at h1
   |cons c q=>
    have hc:c=47:=by
     simp only [Lib.hasPrefix,List.isPrefixOf,Bool.and_true,beq_iff_eq] at h1
     exact h1.symm
    subst hc
    have hq:q≠[]:=fun e=>h0 (by rw [e])
    rw [EZ hq]
    exact Fb q hq (by simp at hp;omega) w
  ·have h2:Lib.hasPrefix p [47]=false:=by simpa using h1
   have hc:=vI p
   rw [Iq h2]
   rw [h2] at hc
   have hqe:(p == [47])=false:=by simp [h0]
   go_enter Tryz.func298,Tryz.ntmps298
   go_wp2_with (go_at_call 332;refine (hc _).mono ?_;rintro e w' ⟨rfl,hw'⟩;subst w')
   refine bodyPost_ret (v:=.bool false) (by simp [results,Tryz.results298,go_sem]) rfl ⟨rfl,?_⟩
   repeat first|exact Below.refl _ _|refine Below.alloc ?_ (by first|omega|(simp<;>omega)) _|refine Below.setCell ?_ (by first|omega|(simp<;>omega)) _
end Go.Proofs.YtippochapiolpaaGreatDoor

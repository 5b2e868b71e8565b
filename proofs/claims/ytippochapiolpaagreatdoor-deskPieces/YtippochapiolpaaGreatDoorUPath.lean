/- Ours. -/
import Derived.Test.YtippochapiolpaaGreatDoorUName
import Derived.Test.YtippochapiolpaaGreatDoorWAbs
import Derived.Sort.LoopGhostIn
import Derived.Test.YtippochapiolpaaGreatDoorShelfU
set_option maxHeartbeats 4000000
set_option maxRecDepth 100000
namespace Go.Proofs.YtippochapiolpaaGreatDoor
open Go.World(alloc_heap_new putObj_heap_other putObj_heap_same size_alloc)
open Go.RowKit.Below(heap_alloc heap_setCell)
open Go.Proofs.Tryz(func121 func298 ntmps298 prog results298)
open List(isPrefixOf)
section
open Go.RowKit Go.Shelf
attribute [local go_sem] Oper.semAt_some
theorem fM{W:World}{B:Nat}{v:Value}{t:TypeId}(h:W.heap[B]? = some (.cells #[v] t)):W.cell? ⟨B,0,none⟩=some v/\W.frozen? ⟨B,0,none⟩=false:=by
 constructor
 ·rw[cell_of_row W B 0 _ _ _ h];rfl
 ·simp[World.frozen?,h]
theorem yA{W:World}{B:Nat}{v:Value}{t:TypeId}(u:Value)(h:W.heap[B]? = some (.cells #[v] t)):(W.setCell ⟨B,0,none⟩ u).heap[B]? = some (.cells #[u] t):=one_setCell h
theorem PG{b W:World}{B:Nat}(h:b.grownBy W (some B))(u:Value):b.grownBy (W.setCell ⟨B,0,none⟩ u) (some B):=
 ⟨h.os,h.tape,h.output,by simpa using h.size,fun i c a=>(heap_setCell _ _ _ _ (fun e=>a (by rw[e]))).trans (h.block i c a)⟩
theorem wV{p:List Nm}{x:Nm}{t:List Nm}(h:p.all isName=true)(a:isName x=true):(p++[x]).all isName=true/\p++x::t=(p++[x])++t:=⟨by rw[List.all_append,h];simp[a],by simp⟩
theorem He{p:List Nm}{x:Nm}{t:List Nm}(a:isName x=false):(p++x::t).all isName=false:=by rw[List.all_append];simp[a]
theorem XB(l f O N:Nat)(k:List UInt8)(hz:k.length<100000)(c:World)(L:O≠f)(K:N≠f)
 (c1:c.cell? ⟨O,0,none⟩=some (.string ⟨#[47]⟩)) (c2:c.heap[f]? = some (.cells #[tx k] 9)) (c3:c.cell? ⟨N,0,none⟩=some (.int .i64 0)) (m:World->Prop)
 (hI:∀z W,Calls prog 123 #[tx z,.string ⟨#[47]⟩] W fun e s=>e=.returned (.int .i64 (Lib.indexByte z 47))/\s=W)
 (R:∀(x:List UInt8) W,x.length<100000->c.grownBy W (some f)->YieldAt Fence.wide 2 prog l #[tx x] W fun e C=>(isName x=true/\e=.returned (.bool true)/\C=W)\/(isName x=false/\e=.returned (.bool false)/\m C)) :
 CallsIn Fence.wide 3 prog 121 #[.func (.yield l) #[] #[],.pointer (some ⟨O,0,none⟩),.pointer (some ⟨f,0,none⟩),.pointer (some ⟨N,0,none⟩)] c fun e C=>(∃v,e=.returned v)/\(((parts k).all isName=true/\c.grownBy C (some f))\/((parts k).all isName=false/\m C)):=by
 have d:∀ {W:World}{B:Nat}{v:Value},B≠f->c.cell? ⟨B,0,none⟩=some v->c.grownBy W (some f)->W.cell? ⟨B,0,none⟩=some v:=fun {W B v} E Q p=>by
  have G:B<c.heap.size:=World.block_lt_of_cell? c _ Q;rw[World.cell?_of_block (w:=c) (a:=⟨B,0,none⟩) (p.block B G (fun e=>E (Option.some.inj e)))];exact Q
 have hf:Fence.wide.fn 123:=trivial;refine callsIn_of_wp func121 rfl trivial ?_ rfl;simp only[Tryz.ntmps121,List.size_toArray,List.length_cons,List.length_nil,Nat.reduceAdd,Nat.reduceSub,Array.replicate_succ,Array.replicate_zero,List.push_toArray,List.append_toArray,List.nil_append,List.cons_append];gi_wp2
 gi_loopg [7] k.length (fun S _ wr=>∃(g:List Nm) (b:List UInt8),wr.heap[f]? = some (.cells #[tx b] 9)/\c.grownBy wr (some f)/\parts k=g++parts b/\g.all isName=true/\b.length<=k.length/\S=b.length)
 case atStart=>exact⟨[],k,c2,⟨rfl,rfl,rfl,Nat.le_refl _,fun _ _ _=>rfl⟩,rfl,rfl,Nat.le_refl _,rfl⟩
 case round=>
  obtain⟨g,b,y,p,r,I,X,V⟩:=hrel;have d1:=d L c1 p;have d3:=d K c3 p;obtain⟨d2,d2f⟩:=fM y;have h:=callsIn_wide (n:=2) |>.2 (hI b wr);by_cases F:Lib.indexByte b 47=-1
  ·rw[F] at h;rw[Am F] at r;obtain⟨fn,u,j,A,T,J⟩:=R b wr (by omega) p;clear F;gi_wp2_with (gi_at_call 123;refine h.mono ?_;rintro e s ⟨rfl,D⟩;subst s)
   refine J.mono ?_;rintro e M (⟨o,rfl,h3⟩|⟨o,rfl,q⟩)
   ·subst M;gi_wp2
    go_end0
    exact⟨⟨_,rfl⟩,.inl ⟨by rw[r];exact(wV (t:=[]) I o).1,p⟩⟩
   ·gi_wp2
    go_end0
    exact⟨⟨_,rfl⟩,.inr ⟨by rw[r];exact He o,q⟩⟩
  ·have Z:=Lib.indexByte_ge b 47;obtain⟨i,P⟩:∃i:Nat,Lib.indexByte b 47=i:=⟨(Lib.indexByte b 47).toNat,by omega⟩;rw[P] at h;obtain⟨Y,he⟩:=Cu P;rw[he] at r;have s1:=DZ b i (by omega);have s2:=uE b (i+1) (by omega);have U:¬(i:Int)<0:=by omega
   obtain⟨fn,u,j,A,T,J⟩:=R (b.take i) wr (by simp;omega) p;gi_wp2_with (gi_at_call 123;refine h.mono ?_;rintro e s ⟨rfl,D⟩;subst s)
   refine J.mono ?_;rintro e M (⟨o,rfl,h3⟩|⟨o,rfl,q⟩)
   ·subst M;gi_wp2
    gi_roundg (b.length-(i+1))
    case measure=>omega
    case rel=>
     have H:(⟨b.toArray⟩:ByteArray).extract (i+1) b.length=⟨(b.drop (i+1)).toArray⟩:=by
      apply ByteArray.ext
      simp only[ByteArray.data_extract,List.extract_toArray,List.extract];rw[List.take_of_length_le (by simp)]
     rw[H];refine⟨g++[b.take i],b.drop (i+1),yA _ y,PG p _,?_,?_,?_,?_⟩
     ·rw[r];exact(wV I o).2
     ·exact(wV (t:=[]) I o).1
     ·simp;omega
     ·simp
   ·gi_wp2
    refine bodyPost_ret (results_none rfl _ _ _) rfl ?_;exact⟨⟨_,rfl⟩,.inr ⟨by rw[r];exact He o,q⟩⟩
end
section
open Go.RowKit Go.Shelf
attribute [local go_sem] Oper.semAt_some
theorem zI(z:List UInt8)(W:World):Calls prog 123 #[tx z,.string ⟨#[47]⟩] W fun e a=>e=.returned (.int .i64 (Lib.indexByte z 47))/\a=W:=
 Any.strings_Index_one Tryz.indexSL ⟨z.toArray⟩ 47 W
theorem vI(z:List UInt8)(W:World):Calls prog 332 #[tx z,.string ⟨#[47]⟩] W fun e a=>e=.returned (.tuple #[tx (Lib.trimPrefix z [47]),.bool (Lib.hasPrefix z [47])])/\a=W:=
 Any.strings_CutPrefix Tryz.cutPrefixL ⟨z.toArray⟩ ⟨#[47]⟩ W
theorem EZ{q:List UInt8}(h:q≠[]):(dS (47::q)).isSome=(parts q).all isName:=by
 have a:(47::q)≠[47]:=fun e=>h (by injection e);unfold dS;rw[if_neg a,iq];cases e:parts q with
 |nil=>exact absurd e (uX q)
 |cons x t=>
  simp only;cases (x::t).all isName<;>rfl
theorem Iq{p:List UInt8}(h:Lib.hasPrefix p [47]=false):dS p=none:=by
 cases hn:dS p with
 |none=>rfl
 |some l=>
  by_cases a:p=[47]
  ·subst a;simp[Lib.hasPrefix,isPrefixOf] at h
  ·obtain⟨q,rfl,_⟩:=lF hn a;simp[Lib.hasPrefix,isPrefixOf] at h
theorem Wx(W:World)(l:Nat)(o o':Obj)(h:W.heap[l]? = some o):(W.putObj l o').putObj l o=W:=by
 obtain⟨c,a⟩:=Array.getElem?_eq_some_iff.1 h;simp only[World.putObj];congr 1
 apply Array.ext
 ·simp
 ·intro i d b;by_cases e:i=l
  ·subst e;simp[a]
  ·simp only[Array.setIfInBounds_setIfInBounds];exact Array.getElem_setIfInBounds_ne b (Ne.symm e)
theorem Gl{P:Program}{g:Operand}{ps:Array Tmp}{b c:Code}{Q:Exit->Act->World->Prop}{a:Act}{w:World}{j n D:Nat}{lb:Array Value}
 (x:w.heap.size=D) (t:1<=n) (u:a.eval g=.func (.func j) #[] lb) (z:∀d w,(callFunc j d).run P w=.ok (.enter j d) w)
 (h:∀(fn:FuncId) (i:LoopState->Option Code->Loop) (f:World),(∀o p,i o p={ state:=o,pending:=p,fn:=fn,tmps:=a.tmps,params:=ps,assign:=b,body:=c,defers:=D })->
   f=(w.alloc (.deferred (some []))).alloc (.loop (i .ready none))->
   CallsIn Fence.wide (n-1) P j (#[.func (.yield (D+1)) #[] #[]]++lb) f fun e m=>(∃v,e=.returned v)/\
    ((m.heap[D+1]? = some (.loop (i .ready none))/\Q .normal { a with defers:={ target:=.collected D,args:=#[] }::a.defers } (m.putObj (D+1) (.loop (i .exhausted none))))\/
     (m.heap[D+1]? = some (.loop (i .done (some .ret)))/\Code.ret.wpIn Fence.wide n P Q { a with defers:={ target:=.collected D,args:=#[] }::a.defers } (m.putObj (D+1) (.loop (i .exhausted (some .ret))))))) :
 (Code.rangeFunc g ps b c).wpIn Fence.wide n P Q a w:=by
 subst x;refine wpIn_rangeFunc ?_;intro fn _;have q:Fence.wide.round=none:=rfl;rw[q];obtain⟨f,l⟩:∃f,(w.alloc (.deferred (some []))).alloc (.loop { state:=.ready,pending:=none,fn:=fn,tmps:=a.tmps,params:=ps,assign:=b,body:=c,defers:=w.heap.size })=f:=⟨_,rfl⟩;have y:=h fn (fun o p=>{ state:=o,pending:=p,fn:=fn,tmps:=a.tmps,params:=ps,assign:=b,body:=c,defers:=w.heap.size }) f (fun _ _=>rfl) l.symm;have k:=run_enterLoop_outer (P:=P) (w:=w) fn a.tmps ps b c;rw[l] at k;refine⟨w.heap.size+1,[{ target:=.collected w.heap.size,args:=#[] }],f,{ target:=.fn (.func j) lb,args:=#[.func (.yield (w.heap.size+1)) #[] #[]] },f,j,#[.func (.yield (w.heap.size+1)) #[] #[]]++lb,f,?_,?_,?_,?_,?_,?_⟩
 ·exact k
 ·simp only[resolve,u];simp[go_sem]
 ·intro A _;trivial
 ·simp[invoke,go_sem,z]
 ·exact fun _=>t
 ·refine y.mono ?_;rintro e m ⟨⟨v,rfl⟩,⟨s,r⟩|⟨s,r⟩⟩
  ·have e:=run_endLoop (P:=P) s (by simp);exact⟨none,_,e,r⟩
  ·have e:=run_endLoop (P:=P) s (by simp);exact⟨some .ret,_,e,r⟩
def EJ(L:Nat)(bz dn:Obj)(W:World)(R:Ending->World->Prop):Exit->Act->World->Prop
 |.normal,_,W3=>W3=W.putObj L bz/\R (.returned (.bool true)) W
 |.ret,_,W3=>W3.heap[L]? = some bz/\R (.returned (.bool false)) (W3.putObj L dn)
 |_,_,_=>False
theorem Sn{P:Program}{L m D:Nat}{fn:FuncId}{j:Array Value}{ps:Array Tmp}{a b:Code}{d:LoopState->Option Code->Loop}{W:World}{args:Array Value}{R:Ending->World->Prop}
 (c:∀o q,d o q={ state:=o,pending:=q,fn:=fn,tmps:=j,params:=ps,assign:=a,body:=b,defers:=D }) (g:W.heap[L]? = some (.loop (d .ready none))) (w:args.size=ps.size)
 (h:a.wpIn (Fence.wide.inRound L) m P (Exit.then (fun u i=>i=W/\b.wpIn (Fence.wide.inRound L) m P (EJ L (.loop (d .busy none)) (.loop (d .done (some .ret))) W R) u (W.putObj L (.loop (d .busy none)))) (fun _ _ _=>False))
   { tmps:=(ps.zip args).foldl (fun t (p,v)=>t.setIfInBounds p v) j,defers:=[] } W):YieldAt Fence.wide m P L args W R:=by
 have k:L<W.heap.size:=(Array.getElem?_eq_some_iff.1 g).1;rw[c] at g;refine⟨_,_,_,_,run_yield g w,roundIn_of_wpIn trivial (wpIn_mono h ?_)⟩;rintro e u i s;cases e<;>try exact s
 obtain⟨rfl,r⟩:=s;refine⟨_,run_beginRound g rfl,?_⟩;rw[c,c] at r;refine wpIn_mono r ?_;rintro e y z n;have f:(i.putObj L (.loop { state:=.busy,pending:=none,fn:=fn,tmps:=j,params:=ps,assign:=a,body:=b,defers:=D })).heap[L]? = some (.loop { state:=.busy,pending:=none,fn:=fn,tmps:=j,params:=ps,assign:=a,body:=b,defers:=D }):=putObj_heap_same k;cases e<;>try exact n.elim
 ·obtain⟨rfl,l⟩:=n;refine⟨_,_,run_endRound none f,?_⟩;exact Eq.subst (motive:=fun X=>R (.returned (.bool true)) X) (Wx i L _ _ g).symm l
 ·obtain⟨x,l⟩:=n;exact⟨_,_,run_endRound (some .ret) x,l⟩
theorem Fb(q:List UInt8)(hq:q≠[])(hp:q.length<99999)(w:World):Calls prog 298 #[tx (47::q)] w fun e r=>e=.returned (.bool ((parts q).all isName))/\Below w.heap.size w r:=by
 have hc:=vI (47::q);have e1:Lib.trimPrefix (47::q) [47]=q:=by simp[Lib.trimPrefix,Lib.hasPrefix,isPrefixOf]
 have e2:Lib.hasPrefix (47::q) [47]=true:=by simp[Lib.hasPrefix,isPrefixOf]
 rw[e1,e2] at hc;have hqe:((47::q)==[47])=false:=by simp[hq]
 have f1:Fence.wide.fn 332:=trivial;have f2:Fence.wide.fn 23:=trivial;refine(callsIn_wide (n:=4)).1 ?_;refine callsIn_of_wp_marks func298 rfl trivial ?_ rfl;simp only[ntmps298,List.size_toArray,List.length_cons,List.length_nil,Nat.reduceAdd,Nat.reduceSub,Array.replicate_succ,Array.replicate_zero,List.push_toArray,List.append_toArray,List.nil_append,List.cons_append];gi_wp2_with (first
  |(gi_at_call 332;refine(callsIn_wide.2 (hc _)).mono ?_;rintro e r ⟨rfl,z⟩;subst r)
  |(gi_at_call 23;refine(callsIn_wide.2 (Hu q _)).mono ?_;rintro e r ⟨rfl,z⟩;subst r))
 obtain⟨m,f⟩:∃m,(((w.alloc (.cells #[.bool false] 4)).alloc (.cells #[tx q] 9)).alloc (.cells #[.string ⟨#[47]⟩] 9)).alloc (.cells #[.int .i64 0] 3)=m:=⟨_,rfl⟩;rw[f];obtain⟨B,A⟩:∃B,w.heap.size=B:=⟨_,rfl⟩;have d:m.heap.size=B+4:=by rw[<-f,<-A];simp
 have S:Below B w m:=by
  rw[<-f,<-A];exact((((Below.refl _ w).alloc (Nat.le_refl _) _).alloc (by simp) _).alloc (by simp;omega) _).alloc (by simp;omega) _
 have k0:m.heap[B]? = some (.cells #[.bool false] 4):=by
  rw[<-f,<-A,heap_alloc _ _ _ (by simp;omega),heap_alloc _ _ _ (by simp;omega),heap_alloc _ _ _ (by simp)];exact alloc_heap_new _ _
 have k1:m.heap[B+1]? = some (.cells #[tx q] 9):=by
  rw[<-f,<-A,heap_alloc _ _ _ (by simp),heap_alloc _ _ _ (by simp)];have:=alloc_heap_new (w.alloc (.cells #[.bool false] 4)) (.cells #[tx q] 9);rwa[size_alloc] at this
 have k2:m.heap[B+2]? = some (.cells #[.string ⟨#[47]⟩] 9):=by
  rw[<-f,<-A,heap_alloc _ _ _ (by simp)];have:=alloc_heap_new ((w.alloc (.cells #[.bool false] 4)).alloc (.cells #[tx q] 9)) (.cells #[.string ⟨#[47]⟩] 9);rwa[size_alloc,size_alloc] at this
 have k3:m.heap[B+3]? = some (.cells #[.int .i64 0] 3):=by
  rw[<-f,<-A];have:=alloc_heap_new (((w.alloc (.cells #[.bool false] 4)).alloc (.cells #[tx q] 9)).alloc (.cells #[.string ⟨#[47]⟩] 9)) (.cells #[.int .i64 0] 3);rwa[size_alloc,size_alloc,size_alloc] at this
 rw[A];refine Gl (D:=B+4) d (by omega) rfl (enters_of func121 (by kernel_rfl) rfl) ?_;intro fn c u M l;have s1:u.heap.size=B+6:=by rw[l];simp[d]
 have h:∀i,i<B+4->u.heap[i]? = m.heap[i]? := fun i H=>by
  rw[l,heap_alloc _ _ _ (by simp[d];omega),heap_alloc _ _ _ (by rw[d];exact H)]
 have d4:u.heap[B+4]? = some (.deferred (some [])):=by
  rw[l,heap_alloc _ _ _ (by simp[d]),<-d];exact alloc_heap_new _ _
 have d5:u.heap[B+4+1]? = some (.loop (c .ready none)):=by
  rw[l];have:=alloc_heap_new (m.alloc (.deferred (some []))) (.loop (c .ready none));rwa[size_alloc,d] at this
 have Q:Below B w u:=by rw[l];exact(S.alloc (by rw[d];omega) _).alloc (by simp[d];omega) _
 have d0:=(h B (by omega)).trans k0;have d1:=(h (B+1) (by omega)).trans k1;have d2:=(h (B+2) (by omega)).trans k2;have d3:=(h (B+3) (by omega)).trans k3;have b:∀ {W:World}{i:Nat}{o:Obj},u.grownBy W (some (B+1))->i≠B+1->u.heap[i]? = some o->W.heap[i]? = some o:=fun {W i o} j N H=>
  (j.block i (Array.getElem?_eq_some_iff.1 H).1 (fun e=>N (Option.some.inj e))).trans H
 have G:∀ {W:World},u.grownBy W (some (B+1))->Below B w W:=fun {W} j=>Q.grown j (by rw[s1];omega) (fun k e=>by cases e;omega);refine(XB (B+4+1) (B+1) (B+1+1) (B+1+2) q (by omega) u (by omega) (by omega) (fM d2).1 d1 (fM d3).1
  (fun g=>g.heap[B+4+1]? = some (.loop (c .done (some .ret)))/\g.heap[B+4]? = some (.deferred (some []))/\g.heap[B]? = some (.cells #[.bool false] 4)/\Below B w g) zI ?_).mono ?_
 ·intro x W hx j;have y:=b j (by omega) d5;have O:B+4+1<W.heap.size:=(Array.getElem?_eq_some_iff.1 y).1;have F:=b j (by omega) d0;have E:=b j (by omega) d4;refine Sn M y rfl ?_;have s:(W.putObj (B+4+1) (.loop (c .busy none))).heap[B]? = some (.cells #[.bool false] 4):=(putObj_heap_other (by omega)).trans F;have v:(W.putObj (B+4+1) (.loop (c .busy none))).heap[B+4]? = some (.deferred (some [])):=(putObj_heap_other (by omega)).trans E;have L:(W.putObj (B+4+1) (.loop (c .busy none))).heap[B+4+1]? = some (.loop (c .busy none)):=putObj_heap_same O;have C:Below B w (W.putObj (B+4+1) (.loop (c .busy none))):=(G j).grown (grownBy_putObj' _ _ _) (by omega) (fun k e=>by cases e;omega);obtain⟨X,U⟩:∃X,W.putObj (B+4+1) (.loop (c .busy none))=X:=⟨_,rfl⟩;rw[U] at s v L C;obtain⟨Y,V⟩:=fM s;have t:=Pt x hx X;have P:∀R,EJ (B+4+1) (.loop (c .busy none)) (.loop (c .done (some .ret))) W R=fun(e:Exit) (_:Act) (I:World)=>match e with
   |.normal=>I=X/\R (.returned (.bool true)) W
   |.ret=>I.heap[B+4+1]? = some (.loop (c .busy none))/\R (.returned (.bool false)) (I.putObj (B+4+1) (.loop (c .done (some .ret))))
   |_=>False:=fun R=>by
   funext e a I;cases e<;>simp only[EJ,U]
  rw[U,P];generalize c .busy none=rb at *;generalize c .done (some .ret)=rd at *;cases hx2:isName x with
  |true=>
   rw[hx2] at t;gi_wp2_with (refine⟨trivial,?_⟩;gi_at_call 333;refine(CallsIn.inRound (B+4+1) (callsIn_wide.2 t)).mono ?_;rintro e r ⟨rfl,z⟩;subst r)
   rfl
  |false=>
   rw[hx2] at t;gi_wp2_with (refine⟨trivial,?_⟩;gi_at_call 333;refine(CallsIn.inRound (B+4+1) (callsIn_wide.2 t)).mono ?_;rintro e r ⟨rfl,z⟩;subst r)
   have T:B+4+1<X.heap.size:=(Array.getElem?_eq_some_iff.1 L).1;have r5:(X.setCell ⟨B,0,none⟩ (.bool false)).heap[B+4+1]? = some (.loop rb):=(heap_setCell _ _ _ _ (by show B+4+1≠B;omega)).trans L;have J:(X.setCell ⟨B,0,none⟩ (.bool false)).heap[B+4]? = some (.deferred (some [])):=(heap_setCell _ _ _ _ (by show B+4≠B;omega)).trans v;refine⟨r5,putObj_heap_same (by simpa using T),(putObj_heap_other (by omega)).trans J,(putObj_heap_other (by omega)).trans (yA _ s),?_⟩;exact(C.setCell (p:=⟨B,0,none⟩) (Nat.le_refl _) _).grown (grownBy_putObj' _ _ _) (by simp;omega) (fun k e=>by cases e;omega)
 ·rintro e g ⟨Z,⟨ha,j⟩|⟨ha,y,E,F,hb⟩⟩
  ·have y:=b j (by omega) d5;refine⟨Z,.inl ⟨y,?_⟩⟩;have F:=b j (by omega) d0;have E:=b j (by omega) d4;have O:B+4+1<g.heap.size:=(Array.getElem?_eq_some_iff.1 y).1;have s:(g.putObj (B+4+1) (.loop (c .exhausted none))).heap[B]? = some (.cells #[.bool false] 4):=(putObj_heap_other (by omega)).trans F;have v:(g.putObj (B+4+1) (.loop (c .exhausted none))).heap[B+4]? = some (.deferred (some [])):=(putObj_heap_other (by omega)).trans E;have C:Below B w (g.putObj (B+4+1) (.loop (c .exhausted none))):=(G j).grown (grownBy_putObj' _ _ _) (by omega) (fun k e=>by cases e;omega);generalize g.putObj (B+4+1) (.loop (c .exhausted none))=X at *;obtain⟨Y,V⟩:=fM s;gi_wp2
   have r0:=yA (.bool true) s;have J:(X.setCell ⟨B,0,none⟩ (.bool true)).heap[B+4]? = some (.deferred (some [])):=(heap_setCell _ _ _ _ (by show B+4≠B;omega)).trans v;have K:=(fM (W:=(X.setCell ⟨B,0,none⟩ (.bool true)).putObj (B+4) (.deferred none)) ((putObj_heap_other (by omega)).trans r0)).1;refine⟨by simp,.inl ⟨_,_,rfl,run_takeDeferred J,?_⟩⟩;refine⟨.bool true,by simp[results,results298,go_sem,K],rfl,?_⟩;exact(C.setCell (p:=⟨B,0,none⟩) (Nat.le_refl _) _).grown (grownBy_putObj' _ _ _) (by simp;have:=(Array.getElem?_eq_some_iff.1 v).1;omega) (fun k e=>by cases e;omega)
  ·refine⟨Z,.inr ⟨y,?_⟩⟩;have O:B+4+1<g.heap.size:=(Array.getElem?_eq_some_iff.1 y).1;have s:(g.putObj (B+4+1) (.loop (c .exhausted (some .ret)))).heap[B]? = some (.cells #[.bool false] 4):=(putObj_heap_other (by omega)).trans F;have v:(g.putObj (B+4+1) (.loop (c .exhausted (some .ret)))).heap[B+4]? = some (.deferred (some [])):=(putObj_heap_other (by omega)).trans E;have C:Below B w (g.putObj (B+4+1) (.loop (c .exhausted (some .ret)))):=hb.grown (grownBy_putObj' _ _ _) (by omega) (fun k e=>by cases e;omega);generalize g.putObj (B+4+1) (.loop (c .exhausted (some .ret)))=X at *;obtain⟨Y,V⟩:=fM s;gi_wp2
   have K:=(fM (W:=X.putObj (B+4) (.deferred none)) ((putObj_heap_other (by omega)).trans s)).1;refine⟨by simp,.inl ⟨_,_,rfl,run_takeDeferred v,?_⟩⟩;refine⟨.bool false,by simp[results,results298,go_sem,K],rfl,?_⟩;exact C.grown (grownBy_putObj' _ _ _) (by have:=(Array.getElem?_eq_some_iff.1 v).1;omega) (fun k e=>by cases e;omega)
theorem CR(p:List UInt8)(k:p.length<100000)(w:World):Calls prog 298 #[tx p] w fun e d=>e=.returned (.bool (dS p).isSome)/\Below w.heap.size w d:=by
 by_cases f:p=[47]
 ·subst f;go_enter func298,ntmps298
  go_wp2_with fail
  refine bodyPost_ret (v:=.bool true) (by simp[results,results298,go_sem]) rfl ⟨rfl,?_⟩
  repeat first|exact Below.refl _ _|refine Below.alloc ?_ (by first|omega|(simp<;>omega)) _|refine Below.setCell ?_ (by first|omega|(simp<;>omega)) _
 ·by_cases b:Lib.hasPrefix p [47]=true
  ·cases p with
   |nil=>simp[Lib.hasPrefix,isPrefixOf] at b
   |cons c q=>
    have a:c=47:=by
     simp only[Lib.hasPrefix,isPrefixOf,Bool.and_true,beq_iff_eq] at b;exact b.symm
    subst a;have g:q≠[]:=fun e=>f (by rw[e]);rw[EZ g];exact Fb q g (by simp at k;omega) w
  ·have h:Lib.hasPrefix p [47]=false:=by simpa using b
   have a:=vI p;rw[Iq h];rw[h] at a;have j:(p==[47])=false:=by simp[f]
   go_enter func298,ntmps298
   go_wp2_with (go_at_call 332;refine(a _).mono ?_;rintro e d ⟨rfl,i⟩;subst d)
   refine bodyPost_ret (v:=.bool false) (by simp[results,results298,go_sem]) rfl ⟨rfl,?_⟩
   repeat first|exact Below.refl _ _|refine Below.alloc ?_ (by first|omega|(simp<;>omega)) _|refine Below.setCell ?_ (by first|omega|(simp<;>omega)) _
end
end Go.Proofs.YtippochapiolpaaGreatDoor

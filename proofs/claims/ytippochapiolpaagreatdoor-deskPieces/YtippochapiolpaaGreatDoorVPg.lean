/- Ours. -/
import Derived.Maps.RangeWalk
import Derived.Test.YtippochapiolpaaGreatDoorVNew
import Derived.Test.YtippochapiolpaaGreatDoorShelf8
set_option maxHeartbeats 8000000
set_option maxRecDepth 100000
namespace Go.Proofs.YtippochapiolpaaGreatDoor
open Go.Proofs.Tryz(prog)
section
open Go.RowKit Go.Maps
def vS(w:World)(g r s:Nat)(M:Int->Option Value)(todo:Int->Bool)(cnt:Nat):Prop:=
 ∃(D:DataW Value) (left:Lit->Bool),w.ranges prog 3 self g r s D left cnt/\Maps.size D=s/\(∀a,Maps.has D (.int .i64 a)=(M a).isSome)/\(∀a z,D.atKey (.int .i64 a) (.held z)=.held ((M a).getD z))/\∀a,left (.int .i64 a)=todo a
section
variable {w w':World}{g r s:Nat}{M:Int→Option Value}{todo:Int→Bool}{cnt:Nat}
theorem vS.map(h:vS w g r s M todo cnt):aK w g s M:=by
 obtain⟨D,a,b,e,d,c,_⟩:=h;exact⟨D,b.owns,e,d,c⟩
theorem vS.keep(h:vS w g r s M todo cnt)(k:w'.heap[g]? = w.heap[g]?)(i:w'.heap[r]? = w.heap[r]?):vS w' g r s M todo cnt:=by
 obtain⟨D,e,⟨o,b,a,c,p,l,F,f,m,j,d⟩,n⟩:=h;exact⟨D,e,⟨o,b,a,c,p,k.trans l,F,f,m,i.trans j,d⟩,n⟩
theorem vS.rlt(h:vS w g r s M todo cnt):r<w.heap.size:=by obtain⟨D,a,b,_⟩:=h;exact b.lt
end
section
variable {ops:Array Oper}{rest:List Oper}{o:Oper}{a:Act}{w:World}{Q:Exit→Act→World→Prop}
theorem Bq(f:o.guard=none)(m:Operand)(t:TypeId)(d:o.op=Op.range t m)(e:TypeId)(l:prog.underlying t=some (.map 3 e))(g n:Nat)(M:Int->Option Value)(q:a.eval m=.map (some g))(c:aK w g n M)
 (h:∀b,vS b g w.heap.size n M (fun x=>(M x).isSome) n->w.grownBy b none->b.heap.size=w.heap.size+1->wpList prog ops Q rest (a.put o.dst (.pointer (some ⟨w.heap.size,0,none⟩))) b):wpList prog ops Q (o::rest) a w:=by
 obtain⟨D,s,k,j,u⟩:=c;refine wpList_range_own w f m t d 3 e gY l self g n D q s (fun b i r p=>h b ⟨D,_,by rw[k] at i;exact i,k,j,u,fun x=>j x⟩ r p)
theorem EO(E:o.guard=none)(m:Operand)(t:o.op=Op.next m false)(g r n:Nat)(M:Int->Option Value)(todo:Int->Bool)(j:Nat)(C:a.eval m=.pointer (some ⟨r,0,none⟩))(P:vS w g r n M todo j)
 (i:(∀x,todo x=false)->wpList prog ops Q rest (a.put o.dst (.tuple #[.bool false])) w)
 (h:∀(x:Int) (v:Value) (w':World) (b:Nat),(Lit.int .i64 x).wf=true->todo x=true->M x=some v->vS w' g r n M (fun z=>todo z && !decide (z=x)) b->b<j->w.grownBy w' (some r)->w'.heap.size=w.heap.size->
   (Instr.entry (.pointer (some ⟨r,0,none⟩))).run prog w'=.ok (.tuple #[.int .i64 x,v]) w'->wpList prog ops Q rest (a.put o.dst (.tuple #[.bool true,.int .i64 x,v])) w'):wpList prog ops Q (o::rest) a w:=by
 obtain⟨D,d,s,V,U,H,G⟩:=P;refine wpList_next_ranges w E m t 3 gY self (Value.int .i64) (fun v:Value=>v) (fun L K c=>by obtain⟨x,rfl,_⟩:=Maps.keyOf_int_inv Tryz.underlying3 c;exact⟨x,rfl⟩) (fun v y _=>⟨v,rfl⟩) g r n D d j C s (fun _ R=>i (fun x=>by rw[<-G];exact R _)) ?_;intro x v K y w' b c B J l I A S O F;obtain⟨X,W,rfl,p⟩:=Maps.keyOf_int_inv Tryz.underlying3 c;cases W
 have N:y=(.held v,[]):=by simp only[self,Option.some.injEq] at J;exact J.symm
 have T:M x=some v:=by
  have f:=(H x (.bool true)).symm.trans (l (.held (.bool true)));have k:=(H x (.bool false)).symm.trans (l (.held (.bool false)));rw[N] at f k;simp only[DataW.held.injEq] at f k;cases e:M x with
  |none=>rw[e] at f k;simp only[Option.getD_none] at f k;rw[<-f] at k;cases k
  |some u=>rw[e] at f;simp only[Option.getD_some] at f;rw[f]
 refine h x v w' b p (by rw[<-G];exact B) T ⟨D,_,I,V,U,H,fun z=>?_⟩ A S O F;have q:(Lit.int .i64 z).sameKey (.int .i64 x)=decide (z=x):=by
  by_cases e:z=x<;>simp[Lit.sameKey,e]
 show (d (.int .i64 z) && !(Lit.int .i64 z).sameKey (.int .i64 x))=_;rw[G z,q]
end
end
section
open Go.RowKit Go.Shelf Go.Lib Go.Sort Go.Maps
def fw(P:PM)(todo:Int->Bool):PM:=fun a=>if todo a then none else P a
theorem IA(P:PM):fw P (fun x=>(vO P x).isSome)=fun _=>none:=by
 funext x;unfold fw;simp only[mr];cases P x<;>rfl
theorem Qc{P:PM}{todo:Int->Bool}(h:∀x,todo x=false):fw P todo=P:=by
 funext x;unfold fw;rw[h x];rfl
theorem KU{P:PM}{todo:Int->Bool}{x:Int}{p:Int×Int}(a:P x=some p):fw P (fun z=>todo z && !decide (z=x))=dC (fw P todo) x p:=by
 funext z;unfold fw dC;by_cases e:z=x
 ·subst e;simp[a]
 ·simp[e]
theorem Ma{P:PM}{todo:Int->Bool}{x:Int}{p:Int×Int}(b:P x=some p)(a:todo x=true)(d:0<=x)(c:x<64){f:Int}(g:0<=f):sh (fw P (fun z=>todo z && !decide (z=x))) f=sh (fw P todo) f+if p.2=f then 1 else 0:=by
 rw[KU b];have:=yT (P:=fw P todo) d c p f;have e:aR (fw P todo) x=-1:=oG (by unfold fw;rw[a];rfl);rw[if_neg (by rw[e];omega)] at this;omega
theorem JZ{P:PM}{todo:Int->Bool}{f:Int}(a:0<=f):sh (fw P todo) f<=sh P f:=by
 refine N8 (fun i=>?_);by_cases e:todo (i:Int)=true
 ·have:aR (fw P todo) i=-1:=oG (by unfold fw;rw[e];rfl);rw[if_neg (by rw[this];omega)];exact Nat.zero_le _
 ·have:aR (fw P todo) i=aR P i:=by unfold aR fw;rw[if_neg e]
  rw[this];exact Nat.le_refl _
theorem aK.copied{w:World}{g n:Nat}{M:Int->Option Value}(m:aK w g n M):∃b a,w.heap[g]? = some (.map b a)/\∀(w':World) (c:Nat),w'.heap[c]? = some (.map b a)->aK w' c n M:=by
 obtain⟨D,⟨b,a,e,F,d,i⟩,f⟩:=m;exact⟨b,a,e,fun w' c h=>⟨D,⟨b,a,h,F,d,i⟩,f⟩⟩
section
variable {E:St}{w w':World}{c gc:Nat}{D:Nat→Nat→Int}{A:Nat→Prop}{P:PM}{o:Int→Nat}
def Rw(E:St)(w:World)(c gc c':Nat)(A:Nat->Prop)(w':World)(D:Nat->Nat->Int)(P:PM)(o:Int->Nat):Prop:=
 ∃gc' A',VS E w' c gc D A' P (fun f=>o f+sh P f)/\VS E w' c' gc' D A' P (fun f=>o f+sh P f)/\Fr (bO E A) w w'/\(∀i,i<w.heap.size->A' i->A i)/\w.heap.size<=c'/\w.heap.size<=gc'
theorem VS.uP(h:VS E w c gc D A P o)(d:∀f,0<=f->o f<=500):Calls prog 229 #[vp c] w fun e C=>∃c',e=.returned (vp c')/\Rw E w c gc c' A C D P o:=by
 have c0:=h.sp.c0;have c1:=h.sp.c1;have hmp:=h.sp.map;go_enter Tryz.func229,Tryz.ntmps229
 go_wp2_with (at_range;refine Bq rfl _ 163 rfl 264 Tryz.underlying163 gc _ _ rfl hmp ?_;intro w0 hr0 j hs0)
 go_frame
 have f0:Fr (bO E A) w w0:=⟨j.os,j.tape,j.output,j.size,fun i g _=>j.block i g (by simp)⟩;have k:¬bO E A w.heap.size:=fun d=>by have:=h.st.Dm d;omega
 have v0:Vs E w0 D (gQ fun f=>sh P f+o f+sh (fw P (fun x=>(vO P x).isSome)) f) A:=by
  rw[gF (t':=fun f=>sh P f+o f) (fun x Q=>by simp only[IA];rw[qD Q];omega)];exact h.st.keep (fun i g=>j.block i (h.st.Dm g) (by simp)) (j.block _ h.st.blt (by simp)) (j.block _ h.st.mlt (by simp))
 go_loopg [12] (bX P) (fun mm s12 wr=>∃b m,vS wr gc w.heap.size (bX P) (vO P) b mm/\Vs E wr D (gQ fun f=>sh P f+o f+sh (fw P b) f) m/\Fr (bO E A) w wr/\(∀i,i<w.heap.size->m i->A i)/\¬bO E m w.heap.size)
 case atStart=>exact⟨_,A,hr0,v0,f0,fun _ _ h=>h,k⟩
 case round=>
  obtain⟨b,m,N,s,H,s1,k⟩:=hrel;go_wp2_with (at_next;refine EO rfl _ rfl gc w.heap.size _ _ _ _ rfl N ?_ ?_)
  ·intro hl;have F:=h.sp.lt;have O:=H.block c F h.mR;have c0':wr.cell? ⟨c,0,none⟩=some (vp E.b):=by rw[World.cell?_of_block (w:=w) (a:=⟨c,0,none⟩) O];exact c0
   have c1':wr.cell? ⟨c,1,none⟩=some (.map (some gc)):=by rw[World.cell?_of_block (w:=w) (a:=⟨c,1,none⟩) O];exact h.sp.c1
   obtain⟨es,l,hb,hcp⟩:=N.map.copied;have hCl:Calls prog 297 #[.map (some gc)] wr.drew fun e C=>e=.returned (.map (some wr.heap.size))/\C=wr.drew.alloc (.map es l):=AnyW.maps_Clone Tryz.cloneL gc es l wr.drew hb;have Y:∀W:World,Below wr.heap.size wr W->W.heap[wr.heap.size]? = some (.map es l)->W.heap[wr.heap.size+1]? = some (.cells #[vp E.b,.map (some wr.heap.size)] 165)->Rw E w c gc (wr.heap.size+1) A W D P o:=by
    intro W hB hm1 hm2;have hR:gQ (fun f=>sh P f+o f+sh (fw P b) f)=gQ (fun f=>sh P f+(o f+sh P f)):=gF (fun z R=>by rw[Qc hl];omega);rw[hR] at s;have vW:=s.below hB;have K:∀i,i<w.heap.size->bO E m i->bO E A i:=fun i g d=>by
     rcases d with d|d
     ·exact .inl (s1 i g d)
     ·exact .inr d
    have hsz:=H.size;refine⟨wr.heap.size,m,⟨vW,h.sp.keep ((hB.block c (by omega)).trans O) ((hB.block gc (by have:=h.sp.uk;omega)).trans (H.block gc h.sp.uk h.iN)),h.ok,h.Bh,fun d=>h.mR (K c F d),fun d=>h.iN (K gc h.sp.uk d),h.gb,h.gm⟩,⟨vW,⟨hm2,hcp W _ hm1⟩,h.ok,h.Bh,fun d=>?_,fun d=>?_,fun e=>?_,fun e=>?_⟩,H.trans (oH (B:=fun _=>False) hB) (fun _ _ h=>h.elim),s1,by omega,by omega⟩
    ·have:=s.Dm d;omega
    ·have:=s.Dm d;omega
    ·have:=s.blt;omega
    ·have:=s.mlt;omega
   have c0a:∀ob,(wr.drew.alloc ob).cell? ⟨c,0,none⟩=some (vp E.b):=fun ob=>by
    rw[World.cell?_of_block (w:=wr) (a:=⟨c,0,none⟩) (Below.heap_alloc wr.drew ob c (by have:=H.size;show c<wr.heap.size;omega))];exact c0'
   have ajy:c<wr.heap.size:=by have:=H.size;omega
   go_wp2_with fail
   go_region_with (go_at_call 297;refine hCl.mono ?_;rintro e w2 ⟨rfl,h2⟩;subst w2)
   all_goals
    go_wp2_with fail
    go_ret;refine⟨_,rfl,?_⟩;refine Y _ ?_ ?_ ?_
    ·exact(((Below.refl _ wr).drew).alloc (Nat.le_refl _) _).alloc (by simp) _
    ·show ((wr.heap.push _).push _)[wr.heap.size]? = _;rw[Array.getElem?_push,if_neg (by simp),Array.getElem?_push,if_pos rfl]
    ·show ((wr.heap.push _).push _)[wr.heap.size+1]? = _;rw[Array.getElem?_push,if_pos (by simp)]
  ·intro x v J y hwx M r u hlt X U hen;obtain⟨p,hP,rfl⟩:∃p,P x=some p/\v=.agg #[.int .i64 p.1,.int .i64 p.2]:=by
    unfold vO at r;cases e:P x with
    |none=>rw[e] at r;cases r
    |some p=>rw[e] at r;exact⟨p,rfl,(Option.some.inj r).symm⟩
   have Q:=h.ok.key x (by rw[hP];rfl);have G:aR P x=p.2:=mh hP;have F:=h.sp.lt;have hwr:=H.size;have k1:∀i,i<wr.heap.size->i≠w.heap.size->J.heap[i]? = wr.heap[i]? := fun i g hn=>X.block i g (fun e=>hn (Option.some.inj e));have v2:Vs E J D (gQ fun f=>sh P f+o f+sh (fw P b) f) m:=s.keep (fun i g=>k1 i (s.Dm g) (fun e=>k (e ▸ g))) (k1 _ s.blt (fun e=>by have:=h.st.blt;omega)) (k1 _ s.mlt (fun e=>by have:=h.st.mlt;omega));have f2:Fr (bO E A) w J:=H.trans (Fr.grown X) (fun i g e=>by omega);obtain⟨W,hW⟩:∃W,J.alloc (.cells #[.int .i64 p.1,.int .i64 p.2] 264)=W:=⟨_,rfl⟩;have bW:Below J.heap.size J W:=by rw[<-hW];exact(Below.refl _ J).alloc (Nat.le_refl _) _
   have v3:=v2.below bW;have f3:Fr (bO E A) w W:=f2.trans (oH (B:=fun _=>False) bW) (fun _ _ h=>h.elim);have hgl:=h.sp.uk;have n:vS W gc w.heap.size (bX P) (vO P) (fun z=>b z && !decide (z=x)) y:=u.keep (bW.block gc (by rw[U];omega)) (bW.block _ u.rlt);have c0':W.cell? ⟨c,0,none⟩=some (vp E.b):=by rw[World.cell?_of_block (w:=w) (a:=⟨c,0,none⟩) (f3.block c F h.mR)];exact c0
   have L:=qI J (.cells #[.int .i64 p.1,.int .i64 p.2] 264);rw[hW] at L;obtain⟨q0,q1,_,_⟩:=mD L;have V:w.heap.size<W.heap.size:=n.rlt;have Z:Calls prog 296 #[vp E.b,.int .i64 p.2] W.drew fun e C=>e=.returned (.tuple #[])/\∃b m,vS C gc w.heap.size (bX P) (vO P) b y/\Vs E C D (gQ fun f=>sh P f+o f+sh (fw P b) f) m/\Fr (bO E A) w C/\(∀i,i<w.heap.size->m i->A i)/\¬bO E m w.heap.size:=by
    have v4:Vs E W.drew D (gQ fun f=>sh P f+o f+sh (fw P b) f) m:=v3.keep (fun _ _=>rfl) rfl rfl;have fd:Fr (bO E A) w W.drew:=f3.trans (Fr.drew (fun _=>False) W) (fun _ _ h=>h.elim);rcases h.ok.frame x with I|I<;>rw[G] at I
    ·rw[I];refine v4.JY.mono ?_;rintro e C ⟨he,rfl⟩;have hR:gQ (fun f=>sh P f+o f+sh (fw P (fun z=>b z && !decide (z=x))) f)=gQ (fun f=>sh P f+o f+sh (fw P b) f):=gF (fun z R=>by rw[Ma hP M Q.1 Q.2 R,I,if_neg (by omega)];omega);exact⟨he,_,m,n.keep rfl rfl,by rw[hR];exact v4,fd,s1,k⟩
    ·have afp:=yU (a:=x) h.ok (by rw[G];omega);rw[G] at afp;have hdl:=JZ (P:=P) (todo:=b) I.1;have hds:=h.Bh p.2 I.1;have hoo:=d p.2 I.1;have S:val (gQ fun f=>sh P f+o f+sh (fw P b) f) p.2=sh P p.2+o p.2+sh (fw P b) p.2:=pq I.1;refine(v4.Tc p.2 (Hg I.1 (by omega)) (by rw[S];omega)).mono ?_;rintro e C ⟨he,A2,v5,f5,s5⟩;have hR:=v5.rof (t:=fun f=>sh P f+o f+sh (fw P (fun z=>b z && !decide (z=x))) f) (fun z R=>by
      rw[LJ,Ma hP M Q.1 Q.2 R];by_cases e:z=p.2
      ·rw[if_pos e,S,if_pos e.symm,e];omega
      ·rw[if_neg e,if_neg (fun h=>e h.symm),pq R];omega)
     rw[hR] at v5;have T:∀i,i<W.heap.size->bO E A2 i->bO E m i:=fun i g d=>by
      rcases d with d|d
      ·exact .inl (s5 i g d)
      ·exact .inr d
     have hgA:¬bO E m gc:=fun q=>h.iN (by rcases q with q|q;exact .inl (s1 gc hgl q);exact .inr q);refine⟨he,_,A2,n.keep (f5.block gc (by show gc<W.heap.size;omega) hgA) (f5.block _ V k),v5,fd.trans f5 (fun i g q=>?_),fun i g ha=>s1 i g (s5 i (by show i<W.heap.size;omega) ha),fun q=>k (T _ V q)⟩;rcases q with q|q
     ·exact .inl (s1 i g q)
     ·exact .inr q
   clear U bW v3 v2 s f3 f2 H N u n k1 h c0 r M hP G s1 k d;obtain⟨p1,p2⟩:=p;simp only at q0 q1 Z hen hW;go_wp2_with fail
   go_region_with (go_at_call 296;refine Z.mono ?_;rintro e w5 ⟨rfl,h5⟩)
   all_goals
    go_wp2_with fail
    go_roundg y
    case measure=>exact hlt
    case rel=>exact h5
end
abbrev Sq:=Nat×Nat×PM
def lh(L:List Sq)(f:Int):Nat:=(L.map fun x=>sh x.2.2 f).sum
theorem F7{L:List Sq}{i:Nat}(a:i<L.length)(x:Sq)(f:Int):lh (L.set i x) f+sh L[i].2.2 f=lh L f+sh x.2.2 f:=by
 unfold lh;induction L generalizing i with
 |nil=>cases a
 |cons y r ih=>
  cases i with
  |zero=>simp;omega
  |succ i=>
   have:=ih (i:=i) (by simpa using a);simp at this ⊢;omega
theorem D9{L:List Sq}{i:Nat}(a:i<L.length)(f:Int):sh L[i].2.2 f<=lh L f:=by
 unfold lh;induction L generalizing i with
 |nil=>cases a
 |cons y r ih=>
  cases i with
  |zero=>simp
  |succ i=>
   have:=ih (i:=i) (by simpa using a);simp at this ⊢;omega
theorem SK(L:List Sq)(x:Sq)(f:Int):lh (L++[x]) f=lh L f+sh x.2.2 f:=by unfold lh;simp
theorem VZ{L:List Sq}{f:Int}(h:∀x∈L,sh x.2.2 f<=1):lh L f<=L.length:=by
 unfold lh;induction L with
 |nil=>simp
 |cons y r ih=>
  have c:=h y (by simp);have b:=ih (fun x a=>h x (by simp[a]));simp at b ⊢;omega
def xQ(L:List Sq)(i:Nat)(hi:i<L.length)(f:Int):Nat:=lh L f-sh L[i].2.2 f
theorem yj{L:List Sq}{i:Nat}(a:i<L.length)(f:Int):sh L[i].2.2 f+xQ L i a f=lh L f:=by
 have:=D9 a f;unfold xQ;omega
structure Al (E:St) (w:World) (D:Nat->Nat->Int) (A:Nat->Prop) (L:List Sq):Prop where
 sp:∀i (hi:i<L.length),VS E w L[i].1 L[i].2.1 D A L[i].2.2 (xQ L i hi)
 apart:∀i j (hi:i<L.length) (hj:j<L.length),L[i].2.1=L[j].2.1->i=j
 pos:0<L.length
def Nq(E:St)(A:Nat->Prop)(L:List Sq)(i:Nat):Prop:=bO E A i\/∃x∈L,i=x.2.1
def FW(E:St)(w:World)(A:Nat->Prop)(L:List Sq)(w':World)(D:Nat->Nat->Int)(L':List Sq):Prop:=
 ∃A',Al E w' D A' L'/\Fr (Nq E A L) w w'/\∀i,i<w.heap.size->Nq E A' L' i->Nq E A L i
section
variable {E:St}{w w':World}{D D':Nat→Nat→Int}{A:Nat→Prop}{L:List Sq}
theorem Me{i:Nat}(a:i<L.length):gQ (fun f=>sh L[i].2.2 f+xQ L i a f)=gQ (lh L):=gF (fun x _=>yj a x)
theorem Al.st(h:Al E w D A L):Vs E w D (gQ (lh L)) A:=by
 have:=(h.sp 0 h.pos).st;rwa[Me] at this
theorem Al.below(h:Al E w D A L)(b:Below w.heap.size w w'):Al E w' D A L:=⟨fun i a=>(h.sp i a).below b,h.apart,h.pos⟩
theorem Al.Dm(h:Al E w D A L){i:Nat}(a:Nq E A L i):i<w.heap.size:=by
 rcases a with a|⟨x,b,rfl⟩
 ·exact h.st.Dm a
 ·obtain⟨j,c,rfl⟩:=List.mem_iff_getElem.1 b;exact(h.sp j c).sp.uk
theorem ET{i:Nat}(a:i<L.length)(x:Sq)(f:Int):xQ (L.set i x) i (by simpa using a) f=xQ L i a f:=by
 have:=F7 a x f;have:=D9 a f;unfold xQ;simp;omega
theorem Al.turn(h:Al E w D A L){i:Nat}(o:i<L.length){c:PM}(t:aW E w L[i].1 L[i].2.1 A w' D' c (xQ L i o)):FW E w A L w' D' (L.set i (L[i].1,L[i].2.1,c)):=by
 obtain⟨H,v,f,s⟩:=t;have J:(L.set i (L[i].1,L[i].2.1,c)).length=L.length:=by simp
 have I:=h.sp i o;have d:∀j,j<w.heap.size->bO E H j->bO E A j:=fun j n a=>by
  rcases a with a|a
  ·exact .inl (s j n a)
  ·exact .inr a
 have B:gQ (fun f=>sh c f+xQ L i o f)=gQ (lh (L.set i (L[i].1,L[i].2.1,c))):=gF (fun x _=>by
  have N:=F7 o (L[i].1,L[i].2.1,c) x;have O:=D9 o x;unfold xQ;simp only at N;omega)
 refine⟨H,⟨fun j n=>?_,fun j k n K e=>?_,by rw[J];exact h.pos⟩,f.mono (fun j _ a=>?_),fun j n a=>?_⟩
 ·by_cases e:j=i
  ·subst e;have p:(L.set j (L[j].1,L[j].2.1,c))[j]=(L[j].1,L[j].2.1,c):=by simp
   rw[p];have:(xQ (L.set j (L[j].1,L[j].2.1,c)) j n)=xQ L j o:=by funext z;exact ET o _ z
   rw[this];exact v
  ·have l:j<L.length:=by simpa using n
   have p:(L.set i (L[i].1,L[i].2.1,c))[j]=L[j]:=by simp[Ne.symm e]
   have b:=h.sp j l;rw[p];have C:L[j].2.1≠L[i].2.1:=fun F=>e (h.apart j i l o F);have G:L[j].1≠L[i].2.1:=fun F=>by
    obtain⟨P,Q,q⟩:=I.sp.map.isMap;rw[<-F,b.sp.head] at q;cases q
   refine⟨?_,b.sp.keep (f.block _ b.sp.lt (fun a=>?_)) (f.block _ b.sp.uk (fun a=>?_)),b.ok,b.Bh,fun a=>b.mR (d _ b.sp.lt a),fun a=>b.iN (d _ b.sp.uk a),b.gb,b.gm⟩
   ·have M:gQ (fun f=>sh L[j].2.2 f+xQ (L.set i (L[i].1,L[i].2.1,c)) j n f)=gQ (lh (L.set i (L[i].1,L[i].2.1,c))):=gF (fun x _=>by
     have:=yj n x;rw[p] at this;exact this)
    rw[M,<-B];exact v.st
   ·rcases a with a|a
    ·exact b.mR a
    ·exact G a
   ·rcases a with a|a
    ·exact b.iN a
    ·exact C a
 ·have l:j<L.length:=by simpa using n
  have r:k<L.length:=by simpa using K
  refine h.apart j k l r ?_;have g:∀m (q:m<L.length),(L.set i (L[i].1,L[i].2.1,c))[m]'(by simpa using q)=if i=m then (L[i].1,L[i].2.1,c) else L[m]:=fun m q=>by rw[List.getElem_set]
  rw[g j l,g k r] at e;by_cases p:i=j<;>by_cases u:i=k
  ·subst p;subst u;rfl
  ·subst p;simpa[u] using e
  ·subst u;simpa[p] using e
  ·simpa[p,u] using e
 ·rcases a with a|a
  ·exact .inl a
  ·exact .inr ⟨L[i],List.getElem_mem o,a⟩
 ·rcases a with a|⟨x,y,rfl⟩
  ·exact .inl (d j n a)
  ·rcases List.mem_or_eq_of_mem_set y with y|rfl
   ·exact .inr ⟨x,y,rfl⟩
   ·exact .inr ⟨L[i],List.getElem_mem o,rfl⟩
theorem Al.y8(h:Al E w D A L){i:Nat}(C:i<L.length){b:Nat}(t:Rw E w L[i].1 L[i].2.1 b A w' D L[i].2.2 (xQ L i C)):∃a,FW E w A L w' D (L++[(b,a,L[i].2.2)])/\w.heap.size<=b:=by
 obtain⟨a,F,v,q,f,s,J,N⟩:=t;have l:∀j,j<w.heap.size->bO E F j->bO E A j:=fun j n c=>by
  rcases c with c|c
  ·exact .inl (s j n c)
  ·exact .inr c
 have B:gQ (fun f=>sh L[i].2.2 f+(xQ L i C f+sh L[i].2.2 f))=gQ (lh (L++[(b,a,L[i].2.2)])):=gF (fun x _=>by
  have K:=SK L (b,a,L[i].2.2) x;have P:=yj C x;simp only at K;omega)
 have u:Vs E w' D (gQ (lh (L++[(b,a,L[i].2.2)]))) F:=by rw[<-B];exact v.st
 refine⟨a,⟨F,⟨fun j n=>?_,fun j k n H e=>?_,by simp⟩,f.mono (fun j _ c=>.inl c),fun j n c=>?_⟩,J⟩
 ·have z:gQ (fun f=>sh (L++[(b,a,L[i].2.2)])[j].2.2 f+xQ (L++[(b,a,L[i].2.2)]) j n f)=gQ (lh (L++[(b,a,L[i].2.2)])):=Me n;by_cases e:j<L.length
  ·have o:(L++[(b,a,L[i].2.2)])[j]=L[j]:=by rw[List.getElem_append_left e]
   have d:=h.sp j e;rw[o] at z ⊢;exact⟨by rw[z];exact u,d.sp.keep (f.block _ d.sp.lt d.mR) (f.block _ d.sp.uk d.iN),d.ok,d.Bh,fun c=>d.mR (l _ d.sp.lt c),fun c=>d.iN (l _ d.sp.uk c),d.gb,d.gm⟩
  ·have M:j=L.length:=by simp at n;omega
   subst M;have o:(L++[(b,a,L[i].2.2)])[L.length]=(b,a,L[i].2.2):=by simp
   rw[o] at z ⊢;exact⟨by rw[z];exact u,q.sp,q.ok,q.Bh,q.mR,q.iN,q.gb,q.gm⟩
 ·have g:∀m (p:m<L.length),(L++[(b,a,L[i].2.2)])[m]'(by simp;omega)=L[m]:=fun m p=>by rw[List.getElem_append_left p]
  have G:∀m (p:m<L.length),L[m].2.1<w.heap.size:=fun m p=>(h.sp m p).sp.uk;have I:∀m (p:m<(L++[(b,a,L[i].2.2)]).length),¬m<L.length->(L++[(b,a,L[i].2.2)])[m]=(b,a,L[i].2.2):=fun m p O=>by
   have:m=L.length:=by simp at p;omega
   subst this;simp
  by_cases o:j<L.length<;>by_cases y:k<L.length
  ·rw[g j o,g k y] at e;exact h.apart j k o y e
  ·rw[g j o,I k H y] at e;have:=G j o;simp only at e;omega
  ·rw[I j n o,g k y] at e;have:=G k y;simp only at e;omega
  ·simp at n H;omega
 ·rcases c with c|⟨x,r,rfl⟩
  ·exact .inl (l j n c)
  ·rcases List.mem_append.1 r with r|r
   ·exact .inr ⟨x,r,rfl⟩
   ·simp at r;subst r;simp only at n;omega
theorem Al.left(h:Al E w D A L):Calls prog 140 #[vp E.b] w fun e a=>e=.returned (.int .i64 ((E.n-used (lh L) E.n:Nat):Int))/\a=w:=h.st.left
theorem Al.aai(h:Al E w D A L)(e:L.length<=500){i:Nat}(a:i<L.length):∀f,0<=f->xQ L i a f<=500:=fun f d=>by
 have k:=yj a f;have g:=VZ (L:=L) (f:=f) (fun x b=>by
  obtain⟨j,c,rfl⟩:=List.mem_iff_getElem.1 b;exact(h.sp j c).Bh f d)
 omega
theorem Al.uP(h:Al E w D A L)(f:L.length<=500){i:Nat}(b:i<L.length):Calls prog 229 #[vp L[i].1] w fun e d=>∃a,e=.returned (vp a)/\∃c,FW E w A L d D (L++[(a,c,L[i].2.2)])/\w.heap.size<=a:=by
 refine((h.sp i b).uP (h.aai f b)).mono ?_;rintro e d ⟨a,g,t⟩;exact⟨a,g,h.y8 b t⟩
theorem Al.keep(h:Al E w D A L)(b:∀i,Nq E A L i->w'.heap[i]? = w.heap[i]?)(f:w'.heap[E.b]? = w.heap[E.b]?)(c:w'.heap[E.bm]? = w.heap[E.bm]?)(e:∀i (a:i<L.length),w'.heap[L[i].1]? = w.heap[L[i].1]?):Al E w' D A L:=
 ⟨fun i a=>(h.sp i a).keep (fun j d=>b j (.inl d)) f c (e i a) (b _ (.inr ⟨L[i],List.getElem_mem a,rfl⟩)),h.apart,h.pos⟩
theorem Al.first{c b:Nat}(h:VS E w c b D A (fun _=>none) (fun _=>0)):Al E w D A [(c,b,fun _=>none)]:=by
 refine⟨fun i a=>?_,fun i j a d _=>by simp at a d;omega,by simp⟩;have:i=0:=by simp at a;omega
 subst this;have e:xQ [(c,b,fun _=>none)] 0 a=fun _=>0:=by funext f;simp[xQ,lh]
 rw[e];exact h
theorem JP{t t':Int->Nat}{n:Nat}(h:∀x,0<=x->t x=t' x):used t n=used t' n:=by unfold used;rw[gF h]
theorem BU(n:Nat):used (fun _=>0) n=0:=Mk n
theorem LM(t:Int->Nat)(n:Nat):used t n=sumTo (fun f=>if t f=0 then 0 else 1) 0 n:=by
 unfold used num;refine sumTo_congr _ _ (fun i _ _=>?_);by_cases e:t (i:Int)=0<;>simp[gQ,e]
end
section
variable {D:Nat→Nat→Int}{P:PM}{o:Int→Nat}
theorem uo.refused{n:Nat}{a k v g:Int}{i:PM}{D':Nat->Nat->Int}(h:uo n P o D a k v g i D')(e:g≠0):i=P/\D'=D:=by
 rcases h with⟨_,_,c,b⟩|⟨_,_,_,d,_⟩|⟨_,_,_,_,c,b⟩|⟨_,_,f,_,_,d,_⟩
 ·exact⟨c,b⟩
 ·exact absurd d e
 ·exact⟨c,b⟩
 ·exact absurd d e
end
theorem NH{t t':Int->Nat}{n f:Nat}(j:f<n)(c:t (f:Int)=0)(b:t' (f:Int)≠0)(a:∀x:Int,0<=x->x≠(f:Int)->(t x=0↔t' x=0)):used t' n=used t n+1:=by
 rw[LM,LM];refine gB (f:=f) (d:=1) (by simp[c,b]) (fun i h=>?_) n 0 (by omega) (by omega);have:=a i (by omega) (by omega);by_cases e:t (i:Int)=0
 ·rw[if_pos e,if_pos (this.1 e)]
 ·rw[if_neg e,if_neg (fun g=>e (this.2 g))]
def P1:PM:=fo (fun _=>none) 0 2 3
theorem acL:P1 0=some (3,-1):=by unfold P1 fo;rfl
theorem JI(x:Int):aR P1 x=-1:=by
 have:P1 x=some (3,-1)\/P1 x=none:=by
  unfold P1 fo;by_cases h:0<=x/\x<0+((2:Nat):Int)
  ·exact .inl (if_pos h)
  ·exact .inr (if_neg h)
 rcases this with h|h
 ·rw[mh h]
 ·exact oG h
theorem Ru{f:Int}(b:0<=f):sh P1 f=0:=yg b (fun a=>by rw[JI];omega)
theorem adz{f z:Int}(_hf:0<=f)(b:0<=z):sh (dC P1 0 (3,f)) z=if f=z then 1 else 0:=by
 have h:=yT (P:=P1) (a:=0) (by omega) (by omega) (3,f) z;rw[Ru b,JI,if_neg (by omega)] at h;simpa using h
theorem adA:(pg P1 0).1=3:=by unfold pg;rw[acL];rfl
theorem acK(f:Int):dC P1 0 (3,f) 0=some (3,f):=by unfold dC;rw[if_pos rfl]
theorem Rz{P:PM}{f:Int}(h:P 0=some (3,f)):dL P 0 1 2=0/\dL P 0 1 1=0:=by unfold dL;rw[h];exact⟨by simp,by simp⟩
end
end Go.Proofs.YtippochapiolpaaGreatDoor

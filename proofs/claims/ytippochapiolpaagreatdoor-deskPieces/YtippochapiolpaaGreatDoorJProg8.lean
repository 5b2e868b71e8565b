/- Ours. -/
import Derived.Test.YtippochapiolpaaGreatDoorJProg6
import Derived.Deep.DeepCutAuto
set_option maxHeartbeats 4000000
set_option maxRecDepth 100000
namespace Go.Proofs.YtippochapiolpaaGreatDoor
open Go.Proofs.Tryz(func200 ntmps200 prog)
open Option(isSome_iff_exists map_some)
section
open Go.RowKit Go.Maps Go.Sort
def handed(P:Ps)(S:List Int):Ps:=fun n=>if n∈S then (P n).map (fun q=>{ q with parent:=1 }) else P n
def qo(P:Ps)(pid code:Int)(q:Pr):Ps:=nZ P pid { q with state:=2,code:=code,wt:=fF }
section
variable {w w' V:World}{t g c:Nat}{P:Ps}{n m sig pid k code:Int}{p q:Pr}
theorem Ky:handed P []=P:=by funext n;unfold handed;simp
theorem KA{L:List Int}{x:Int}(b:x∉L)(a:P x=some q):handed P L x=some q/\nZ (handed P L) x { q with parent:=1 }=handed P (L++[x]):=by
 refine⟨by unfold handed;rw[if_neg b];exact a,?_⟩;funext i;unfold nZ handed;by_cases e:i=x
 ·subst e;simp[a]
 ·simp[e]
theorem Kz(ok:pX P)(m:P pid=some q)(n:pid≠1):handed (qo P pid code q) (gM (qo P pid code q) pid)=dG P pid code:=by
 have g:=(ok.par pid q m n).2;have j:∀i,i∈gM (qo P pid code q) pid↔i≠pid/\∃r,P i=some r/\r.parent=pid:=fun i=>by
  unfold gM;rw[List.mem_filter];unfold Bi;rw[decide_eq_true_iff];by_cases e:i=pid
  ·subst e;have c:qo P i code q i=some { q with state:=2,code:=code,wt:=fF }:=oN _ _ _;rw[oP c];constructor
   ·rintro ⟨_,z⟩;exact absurd z g
   ·rintro ⟨z,_⟩;exact absurd rfl z
  ·have c:qo P pid code q i=P i:=qZ e;constructor
   ·rintro ⟨l,k⟩;unfold aH at l;have:=(List.mem_filter.1 l).2;rw[c] at this;obtain⟨r,b⟩:=isSome_iff_exists.1 this;have a:qo P pid code q i=some r:=c.trans b;rw[oP a] at k;exact⟨e,r,b,k⟩
   ·rintro ⟨_,r,b,d⟩;have a:qo P pid code q i=some r:=c.trans b;have p:=ok.key i r b;refine⟨?_,by rw[oP a];exact d⟩;unfold aH;exact List.mem_filter.2 ⟨List.mem_map.2 ⟨(i-1).toNat,List.mem_range.2 (by omega),by omega⟩,by rw[a];rfl⟩
 funext i;unfold handed dG;by_cases e:i=pid
 ·subst e;rw[if_neg (fun z=>((j i).1 z).1 rfl),m];show nZ _ _ _ _=_;rw[oN];simp only[map_some,lT,if_true,if_neg g]
 ·have c:qo P pid code q i=P i:=qZ e;rw[c];cases b:P i with
  |none=>split<;>rfl
  |some r=>
   by_cases d:r.parent=pid
   ·rw[if_pos ((j i).2 ⟨e,r,b,d⟩)];simp only[map_some,lT,if_neg e,if_pos d]
   ·rw[if_neg (fun z=>by
     obtain⟨_,o,f,h⟩:=(j i).1 z;rw[b] at f;cases f
     exact d h)]
    simp only[map_some,lT,if_neg e,if_neg d]
theorem JD.exit(h:JD P)(pid code:Int):JD (dG P pid code):=by
 have c:∀i p,dG P pid code i=some p->∃q,P i=some q/\p=lT pid code i q:=fun i p e=>by
  unfold dG at e;cases a:P i with
  |none=>rw[a] at e;cases e
  |some q=>rw[a] at e;exact⟨q,rfl,(Option.some.inj e).symm⟩
 refine⟨fun i p e s z=>?_,fun i p e z=>?_⟩
 ·obtain⟨q,a,rfl⟩:=c i p e;rw[(oU q).1] at z;rw[(oU q).2];split at z
  ·cases z
  ·exact h.Bh i q a s z
 ·obtain⟨q,a,rfl⟩:=c i p e;rw[ve] at z;rw[(oU q).1];split
  ·rfl
  ·rename_i b
   rw[if_neg b] at z;exact h.dead i q a z
theorem Gt{P:Ps}{x:Int}(a:x∈gM P pid):(P x).isSome=true:=by
 unfold gM at a;have:=(List.mem_filter.1 a).1;unfold aH at this;exact(List.mem_filter.1 this).2
theorem Kh(P:Ps)(pid:Int):(gM P pid).Nodup:=(xD P).filter _
theorem Gu(P:Ps)(pid:Int):(gM P pid).length<=24:=by
 have:=lH P;have:(gM P pid).length<=(aH P).length:=by unfold gM;exact List.length_filter_le _ _
 omega
theorem QJ.exit(h:QJ w t g P c)(pid code:Int)(hn:(Lit.int .i64 pid).wf=true):Calls prog 200 #[wp t,.int .i64 pid,.int .i64 code] w fun e w'=>e=.returned (aI (kV P pid))/\Fw w t g (if kV P pid=0 then dG P pid code else P) w':=by
 have k:=h.toQM.runs pid hn;cases nO:aD P pid with
 |false=>
  rw[nO,if_neg (by simp),ax (by omega)] at k;have G:kV P pid=7:=by unfold kV;rw[if_pos nO]
  rw[G,if_neg (by omega),ax (by omega)];go_enter func200,ntmps200
  go_wp2_with (go_at_call 227;refine k.mono ?_;rintro e H ⟨rfl,n⟩)
  go_ret;exact⟨rfl,.same h n⟩
 |true=>
  rw[nO,if_pos rfl,aB] at k;by_cases y:pid=1
  ·have G:kV P pid=6:=by unfold kV;rw[if_neg (by rw[nO];simp),if_pos y]
   rw[G,if_neg (by omega),ax (by omega)];subst y;go_enter func200,ntmps200
   go_wp2_with (go_at_call 227;refine k.mono ?_;rintro e H ⟨rfl,n⟩)
   go_ret;exact⟨rfl,.same h n⟩
  ·have G:kV P pid=0:=by unfold kV;rw[if_neg (by rw[nO];simp),if_neg y]
   rw[G,if_pos rfl,aB];have hb1:(pid==1)=false:=by simpa using y
   obtain⟨q,I,O⟩:=dx.1 nO;have hk:=h.key pid q I;have l:∀V,Below w.heap.size w V->∃v,(Instr.mapUpdate 127 (.map (some g)) (.int .i64 pid) (.agg #[.int .i64 2,.int .i64 q.parent,.int .i64 code,.int .u64 0,.int .u64 0])).run prog V=.ok () v/\QM v t g (qo P pid code q) c/\Vg g w v:=fun V E=>by
    obtain⟨v,f,K,s5⟩:=h.toQM.put E pid hk { q with state:=2,code:=code,wt:=fF };rw[I] at K;have e:qv { q with state:=2,code:=code,wt:=fF }=.agg #[.int .i64 2,.int .i64 q.parent,.int .i64 code,.int .u64 0,.int .u64 0]:=by
     unfold qv Nh;simp only[show ¬((2:Int)=1) by omega,if_false];unfold mv;rw[Jw];rfl
    rw[e] at f;exact⟨v,f,K,s5⟩
   have QL:Aside _:=l;have D:=fun V (E:Below w.heap.size w V)=>(h.toQM.below E).c0;have I5:Aside _:=D;have s:=fun V (E:Below w.heap.size w V)=>(h.toQM.below E).parent pid hn;rw[oP I] at s;have Z:Aside _:=s;have d:∀W,QM W t g (dG P pid code) c->Vg g w W->Fw w t g (dG P pid code) W:=fun W a b=>⟨c,⟨a,h.ok.exit nO y,h.dj.exit pid code⟩,b⟩;have o:=Kz (code:=code) h.ok I y;have T:(qo P pid code q pid).isSome=true:=by show (nZ _ _ _ _).isSome=true;rw[oN];rfl
   have HFI:Aside _:=d;clear l D s O d;generalize qo P pid code q=P1 at *;have HAL:Aside _:=o;clear o;go_enter func200,ntmps200
   go_upto_region 6 with (go_at_call 227;refine k.mono ?_;rintro e H ⟨rfl,n⟩)
   have c1:=I5.out H n;have p2:=Z.out H.drew (bP n);go_cut [28] (fun _ W=>QM W t g P1 c/\Vg g w W)
   case first=>
    go_region_with (go_at_call 281;refine p2.mono ?_;rintro e B ⟨rfl,u⟩;have b2:Below w.heap.size w B:=(bP n).trans (u.mono n.size);have c2:=I5.out B b2;obtain⟨v,f,K⟩:=QL.out _ b2)
    all_goals
     go_wp2_with fail
     go_meet
     case rel=>exact K
   case rest=>
    obtain⟨p,N⟩:=hcut;have hO:=p.own T pid;have hol:=Gu P1 pid;have R:=Kh P1 pid;have S:=fun x (hx:x∈gM P1 pid)=>Gt (P:=P1) (pid:=pid) hx;clear c1 p2 k;generalize gM P1 pid=L at *;go_wp2_with (go_at_call 269;refine hO.mono ?_;rintro e B ⟨b,Y,rfl,hcap,hb1',u,U,m⟩)
    go_loopg [9,33] L.length (fun mm _ s33 wr=>∃i:Nat,i+mm=L.length/\s33=.int .i64 (i:Int)/\QM wr t g (handed P1 (L.take i)) c/\Vg g B wr)
    case atStart=>exact⟨0,by omega,rfl,by rw[List.take_zero,Ky];exact p.below m,.ofB (Below.refl _ _)⟩
    case round=>
     obtain⟨i,hi,rfl,F,J⟩:=hrel;by_cases hlt:(i:Int)<(L.length:Int)
     ·have A:i<L.length:=by omega
      have hgw:g<wc.heap.size:=p.map.lt;have cb:wr.cell? ⟨b,i,none⟩=some (.int .i64 L[i]):=by
       rw[World.cell?_of_block (w:=B) (a:=⟨b,i,none⟩) (J.block b u (by omega))];exact U i A
      obtain⟨r,k⟩:=isSome_iff_exists.1 (S _ (List.getElem_mem A));have C:L[i]∉L.take i:=fun z=>by
       obtain⟨j,hj,e⟩:=List.getElem_of_mem z;rw[List.getElem_take] at e;rw[List.length_take] at hj;have:=(List.getElem_inj R).1 e;omega
      obtain⟨a1,a2⟩:=KA (L:=L.take i) C k;have hH:=F.hand a1 1;rw[a2,<-take_add A] at hH;have aho:(i:Int)<(Y:Int):=by omega
      clear a2 C F k a1;generalize L[i]=X at *;go_wp2_with (go_at_call 282;refine hH.mono ?_;rintro e w3 ⟨rfl,Q,M⟩)
      go_roundg (gk-1)
      case measure=>omega
      case rel=>exact⟨i+1,by omega,by go_num,Q,J.trans M⟩
     ·have A:i=L.length:=by omega
      have d:=HFI.out wr (by rw[A,List.take_length,HAL.out] at F;exact F) ((N.trans (.below _ m)).trans J);clear F J A;go_wp2_with fail
      go_ret;exact⟨rfl,d⟩
end
end
section
open Go.RowKit Go.Maps Go.Sort Go.Shelf Go.Lib
section
variable {w w' V:World}{t g c:Nat}{P:Ps}{n m sig pid k code:Int}{p q:Pr}
theorem GN(f:Int->Bool)(d:Int):∀(a:List Int) (i:Nat),(∃j,∃e:j<a.length,idxByFrom (fun _ y=>f y) d a i=((i+j:Nat):Int)/\a.find? f=some a[j])\/(idxByFrom (fun _ y=>f y) d a i=-1/\a.find? f=none)
 | [],i=>.inr ⟨rfl,rfl⟩
 |z::a,i=>by
  by_cases h:f z=true
  ·exact .inl ⟨0,by simp,by simp[idxByFrom,h],by simp[h]⟩
  ·rcases GN f d a (i+1) with⟨j,e,c,b⟩|⟨c,b⟩
   ·exact .inl ⟨j+1,by simp;omega,by simp[idxByFrom,h,c];omega,by simp[h,b]⟩
   ·exact .inr ⟨by simp[idxByFrom,h,c],by simp[h,b]⟩
def jN(P:Ps)(n:Int):Bool:=decide (nN P n=2)
theorem TC(P:Ps)(pid:Int):(gM P pid).find? (jN P)=(aH P).find? (BL P pid):=by
 unfold gM;rw[List.find?_filter];congr 1
 funext x;unfold Bi jN BL;simp
theorem WK(P:Ps)(pid:Int):(aH P).any (Bi P pid)=true↔(gM P pid).length≠0:=by
 unfold gM;rw[List.any_eq_true,Ne,List.length_eq_zero_iff,List.filter_eq_nil_iff];constructor
 ·rintro ⟨x,a,h⟩ z;exact z x a h
 ·intro z;apply Classical.byContradiction
  intro h;exact z (fun x a b=>h ⟨x,a,b⟩)
theorem Pw(h:QM w t g P c){x:Nat}(k:w.cell? ⟨x,0,none⟩=some (wp t))(n:Int)(d:(Lit.int .i64 n).wf=true):Calls prog 271 #[.int .i64 n,.pointer (some ⟨x,0,none⟩)] w fun e a=>e=.returned (.bool (jN P n))/\Below w.heap.size w a:=by
 have i:=h.state n d;have b:jN P n=(nN P n==2):=by unfold jN;by_cases e:nN P n=2<;>simp[e]
 rw[b];generalize nN P n=r at *;go_enter Tryz.func271,Tryz.ntmps271
 go_wp2_with (go_at_call 147;refine i.mono ?_;rintro e j ⟨rfl,f⟩)
 go_ret;exact⟨rfl,f⟩
theorem JD.del(h:JD P)(n:Int):JD (uu P n):=⟨fun i p e=>h.Bh i p (iG e).2,fun i p e=>h.dead i p (iG e).2⟩
theorem QJ.del(h:QJ w t g P c)(k:Below w.heap.size w V)(j:P n=some q)(m:q.state=2):∃w',(∀d,(Builtin.delete_ #[127,3] d #[.map (some g),.int .i64 n]).run prog V=.ok (.tuple #[]) w')/\Fw w t g (uu P n) w':=by
 have o:=h.key n q j;have b:=h.below k;obtain⟨w',a,f,l⟩:=b.map.del Tryz.underlying127 n (uq (by omega)) 0;refine⟨w',fun d=>by rw[<-a];rfl,(if (P n).isSome then c-1 else c),⟨⟨(l.block t b.Zi (fun z=>h.gt (Option.some.inj z).symm)).trans b.head,?_,fun i p e=>h.key i p (iG e).2⟩,h.ok.del (by rw[kG j];exact m),h.dj.del n⟩,(Wt.below _ k).trans (.grown l rfl)⟩
 ·have:(fun i=>if i=n then none else (P i).map qv)=fun i=>(uu P n i).map qv:=by
   funext i;unfold uu;split<;>rfl
  rw[this,Option.isSome_map] at f;exact f
theorem QJ.wait(h:QJ w t g P c)(pid:Int)(hn:(Lit.int .i64 pid).wf=true):Calls prog 186 #[wp t,.int .i64 pid] w fun e B=>e=.returned (.tuple #[.int .i64 (bC P pid).1,.int .i64 (bC P pid).2.1,aI (bC P pid).2.2.1])/\Fw w t g (bC P pid).2.2.2 B:=by
 have D:Below w.heap.size w (w.alloc (.cells #[wp t] 62)):=(Below.refl _ w).alloc (Nat.le_refl _) _;obtain⟨k,fB⟩:∃k,w.alloc (.cells #[wp t] 62)=k:=⟨_,rfl⟩;rw[fB] at D;have E:k.heap.size=w.heap.size+1:=by rw[<-fB];show (w.heap.push _).size=_;rw[Array.size_push]
 have S:k.cell? ⟨w.heap.size,0,none⟩=some (wp t):=by
  rw[<-fB,cell_of_row _ _ _ _ _ _ (show (w.heap.push _)[w.heap.size]? = some _ by rw[Array.getElem?_push,if_pos rfl])];rfl
 have l:=(h.below D).toQM.runs pid hn;cases nO:aD P pid with
 |false=>
  rw[nO,if_neg (by simp),ax (by omega)] at l;have d:bC P pid=(0,0,7,P):=by unfold bC;rw[if_pos nO]
  simp only[d];rw[ax (show (7:Int)≠0 by omega)];go_enter Tryz.func186,Tryz.ntmps186
  go_wp2_with (go_at_call 227;refine l.mono ?_;rintro e v ⟨rfl,u⟩)
  go_ret3
  exact⟨rfl,.same h (D.trans (u.mono D.size))⟩
 |true=>
  rw[nO,if_pos rfl,aB] at l;obtain⟨q0,Y,_⟩:=dx.1 nO;have Z:(P pid).isSome=true:=by rw[Y];rfl
  have H:=fun W (d:Below w.heap.size w W)=>(h.below d).toQM.own Z pid;have hlen:=Gu P pid;have Vq:=TC P pid;have Lh:=WK P pid;have s:=fun x (U:x∈gM P pid)=>Gt (P:=P) (pid:=pid) U;have HA:Aside (Below w.heap.size w k):=D;have VA:Aside (k.heap.size=w.heap.size+1):=E;have hix:∀W b f,Below k.heap.size k W->b<W.heap.size->(∀j (C:j<(gM P pid).length),W.cell? ⟨b,j,none⟩=some (.int .i64 (gM P pid)[j]))->Calls prog 270 #[.slice (some ⟨b,0,none⟩) (gM P pid).length f,.func (.func 271) #[] #[.pointer (some ⟨w.heap.size,0,none⟩)]] W fun e B=>e=.returned (.int .i64 (idxBy (fun _ y=>jN P y) (gM P pid) default))/\Below W.heap.size W B:=fun W b f d u hc=>by
   refine ML (Ok:=fun V=>QM V t g P c/\V.cell? ⟨w.heap.size,0,none⟩=some (wp t)) (p:=jN P) (enters_of Tryz.func271 (by kernel_rfl) rfl) (fun V x O U=>?_) (fun V O=>?_) (by omega) u (fun j C=>by rw[hc j C,getElem!_pos _ j C])
   ·obtain⟨r,l⟩:=isSome_iff_exists.1 (s x U);have:=h.key x r l;exact Pw O.1 O.2 x (uq (by omega))
   ·have n:Below k.heap.size k V:=d.trans (O.mono d.size);exact⟨(h.below D).toQM.below n,by rw[n.cell (p:=⟨w.heap.size,0,none⟩) (by show w.heap.size < _;omega)];exact S⟩
  have HIX:Aside _:=hix;have HOW:Aside _:=H;have hW0:(gM P pid).find? (jN P)=none->bC P pid=(0,0,if (gM P pid).length=0 then 8 else 6,P):=fun z=>by
   unfold bC;rw[if_neg (by rw[nO];simp),<-Vq,z];simp only;by_cases e:(gM P pid).length=0
   ·rw[if_pos e,if_neg (fun z=>(Lh.1 z) e)]
   ·rw[if_neg e,if_pos (Lh.2 e)]
  have hW1:∀x,(gM P pid).find? (jN P)=some x->bC P pid=(x,BM P x,0,uu P x):=fun x z=>by
   unfold bC;rw[if_neg (by rw[nO];simp),<-Vq,z]
  have M:Aside _:=hW0;have HW1:Aside _:=hW1;generalize hLL:gM P pid=L at *;go_enter Tryz.func186,Tryz.ntmps186
  go_upto_region 4 with (go_at_call 227;refine l.mono ?_;rintro e v ⟨rfl,u⟩)
  have i:Below w.heap.size w v:=HA.out.trans (u.mono HA.out.size);have y1:v.cell? ⟨w.heap.size,0,none⟩=some (wp t):=by rw[u.cell (p:=⟨w.heap.size,0,none⟩) (by have:=VA.out;show w.heap.size < _;omega)];exact S
  have hO:=HOW.out v i;by_cases m:L.length=0
  ·have hLn:L=[]:=List.eq_nil_of_length_eq_zero m;have d:=M.out (by rw[hLn];rfl);rw[if_pos m] at d;have N:Aside _:=d;have hO2:Calls prog 269 #[wp t,.int .i64 pid] v fun e B=>∃b f,e=.returned (.slice (some ⟨b,0,none⟩) 0 f)/\Below v.heap.size v B:=hO.mono (by
    rintro e B ⟨b,f,R,_,_,_,_,z2⟩;rw[m] at R;exact⟨b,f,R,z2⟩)
   go_wp2_with (go_at_call 269;refine hO2.mono ?_;rintro e o ⟨b,f,rfl,a⟩)
   go_ret3
   rw[N.out];exact⟨rfl,.same h (i.trans (a.mono i.size))⟩
  ·have hl1:((L.length:Int)==0)=false:=by simpa using m
   have hl2:¬((L.length:Int)=0):=by omega
   go_upto_region 7 with (go_at_call 269;refine hO.mono ?_;rintro e o ⟨b,f,rfl,hcap,hb1,n,I,a⟩)
   have J:Below k.heap.size k o:=u.trans (a.mono u.size);have q:=HIX.out o b f J n I;have hz2:=a.size;have y2:o.cell? ⟨w.heap.size,0,none⟩=some (wp t):=by rw[J.cell (p:=⟨w.heap.size,0,none⟩) (by have:=VA.out;show w.heap.size < _;omega)];exact S
   rcases GN (jN P) default L 0 with⟨j,C,e1,Q⟩|⟨e1,Q⟩
   ·rw[show idxBy (fun _ y=>jN P y) L default=((0+j:Nat):Int) from e1,Nat.zero_add] at q;have d:=HW1.out _ Q;obtain⟨r,l⟩:=isSome_iff_exists.1 (s _ (List.getElem_mem C));have F:r.state=2:=by
     have:=List.find?_some Q;unfold jN at this;rw[kG l] at this;simpa using this
    have hcd:BM P L[j]=r.code:=by unfold BM;rw[l];rfl
    rw[hcd] at d;have N:Aside _:=d;have hk:=h.key _ r l;have hcj:=I j C;have hjn:¬((j:Int)<0):=by omega
    have hjl:(j:Int)<(L.length:Int):=by omega
    generalize L[j]=X at *;have HF:Aside (∀W,Below o.heap.size o W->W.cell? ⟨b,j,none⟩=some (.int .i64 X)/\W.cell? ⟨w.heap.size,0,none⟩=some (wp t)/\QJ W t g P c/\Below w.heap.size w W):=fun W d=>by
     have K:Below w.heap.size w o:=i.trans (a.mono i.size);have b4:=K.trans (d.mono K.size);refine⟨by rw[d.cell (p:=⟨b,j,none⟩) n];exact hcj,?_,h.below b4,b4⟩;rw[d.cell (p:=⟨w.heap.size,0,none⟩) (World.block_lt_of_cell? o _ y2)];exact y2
    go_upto_region 10 with (go_at_call 270;refine q.mono ?_;rintro e T ⟨rfl,A⟩)
    obtain⟨R,z2,z3,z4⟩:=HF.out T A;have l3:=z3.toQM.xu l (uq (by omega));have c3:=z3.toQM.c0;have f3:=(VC r.state r.parent r.code (iU r.wt:Nat) (iU (Nh r):Nat) T).2.2.1;obtain⟨w5,G,h5⟩:=h.del z4 l F;rw[F] at l3 f3;go_wp2_with (at_delete;refine nM rfl _ _ 127 3 rfl _ _ _ w5 rfl rfl G ?_)
    go_ret3
    rw[N.out];exact⟨rfl,h5⟩
   ·rw[show idxBy (fun _ y=>jN P y) L default=-1 from e1] at q;have d:=M.out Q;rw[if_neg m] at d;have N:Aside _:=d;go_wp2_with (go_at_call 270;refine q.mono ?_;rintro e T ⟨rfl,A⟩)
    go_ret3
    have K:Below w.heap.size w o:=i.trans (a.mono i.size);rw[N.out];exact⟨rfl,.same h (K.trans (A.mono K.size))⟩
end
end
end Go.Proofs.YtippochapiolpaaGreatDoor

/- Ours. -/
import Derived.Test.YtippochapiolpaaGreatDoorSKeys
import Derived.Shelf.SlicesE.DeleteFunc
import Derived.Sort.LoopGhostIn
import Derived.Deep.Light
import Derived.Lib.SlKeysI
set_option maxHeartbeats 4000000
set_option maxRecDepth 100000
namespace Go.Proofs.YtippochapiolpaaGreatDoor
open Nat(le_refl zero_add)
open Go.Proofs.Tryz(func207 ntmps207 prog)
open Go.RowKit Go.Maps Go.Sort Go.Shelf Go.Lib
def LF(f:Nat)(lb:Array Value)(p:Int->Bool)(Ok:World->Prop)(L:List Int):Prop:=
 ∀W x,Ok W->x∈L->Calls prog f (#[.int .i64 x]++lb) W fun e w'=>e=.returned (.bool (p x))/\Below W.heap.size W w'
section
variable {w w':World}{b cap f:Nat}{lb:Array Value}{p:Int→Bool}{Ok:World→Prop}{L:List Int}
theorem ML(I:∀i w,(callFunc f i).run prog w=.ok (.enter f i) w)(q:LF f lb p Ok L)(r:∀W,Below w.heap.size w W->Ok W)(G:L.length<=1000)(v:b<w.heap.size)(t:∀j,j<L.length->w.cell? ⟨b,j,none⟩=some (.int .i64 L[j]!)):Calls prog 270 #[.slice (some ⟨b,0,none⟩) L.length cap,.func (.func f) #[] lb] w fun e n=>e=.returned (.int .i64 (idxBy (fun _ y=>p y) L default))/\Below w.heap.size w n:=by
 have D:Aside (LF f lb p Ok L):=q;have E:Aside (∀W,Below w.heap.size w W->Ok W):=r;have F:Aside (∀j,j<L.length->w.cell? ⟨b,j,none⟩=some (.int .i64 L[j]!)):=t;clear q r t;go_enter Tryz.func270,Tryz.ntmps270
 go_wp2_with fail
 go_loopg [5,8] L.length (fun z _ s8 wr=>∃a:Nat,a<=L.length/\L.length-a<=z/\s8=.int .i64 a/\Below w.heap.size w wr/\Aside (∀j,j<a->p L[j]! = false))
 case atStart=>exact⟨0,Nat.zero_le _,by omega,rfl,Below.refl _ _,fun j s=>absurd s (Nat.not_lt_zero _)⟩
 case round=>
  obtain⟨a,u,H,rfl,d,A⟩:=hrel;by_cases g:a<L.length
  ·have m:(a:Int)<(L.length:Int):=by omega
   have k:wr.cell? ⟨b,a,none⟩=some (.int .i64 L[a]!):=by rw[d.cell (p:=⟨b,a,none⟩) v];exact F.out a g
   have h:L[a]! ∈ L:=by rw[getElem!_pos L a g];exact List.getElem_mem g
   have c:=D.out wr L[a]! (E.out wr d) h;generalize hy:L[a]! = y at k c;have B:Aside (L[a]! = y):=hy;clear hy h;cases hq:p y with
   |true=>
    rw[hq] at c;go_wp2_with (go_at_fn f;refine c.mono ?_;rintro e n ⟨rfl,l⟩)
    go_ret;refine⟨?_,d.trans (l.mono d.size)⟩;have:=Lib.idxBy_hit (fun _ y=>p y) L L.length a default g (le_refl _) (by show p L[a]! = true;rw[B.out];exact hq) A.out;rw[List.take_length] at this;rw[this];rfl
   |false=>
    rw[hq] at c;go_wp2_with (go_at_fn f;refine c.mono ?_;rintro e n ⟨rfl,l⟩)
    go_roundg (L.length-(a+1))
    case measure=>omega
    case rel=>
     refine⟨a+1,by omega,by omega,by go_num,d.trans (l.mono d.size),(show Aside _ from fun j s=>?_)⟩;by_cases e:j=a
     ·subst e;rw[B.out];exact hq
     ·exact A.out j (by omega)
  ·have m:¬(a:Int)<(L.length:Int):=by omega
   have o:a=L.length:=by omega
   have C:Aside (a=L.length):=o;clear o;go_wp2_with fail
   go_ret;refine⟨?_,d⟩;have:=Lib.idxBy_miss (fun _ y=>p y) L a default A.out;rw[C.out,List.take_length] at this;have x:idxBy (fun _ y=>p y) L 0=-1:=this;first|rw[x] | rw[this]
   rfl
theorem pI{d:Array Int}(h:Holds encZ w b 0 d)(c:w'.heap[b]? = w.heap[b]?):Holds encZ w' b 0 d:=fun j e=>by
 rw[World.cell?_of_block (w:=w) (a:=⟨b,0+j,none⟩) c,World.frozen?_of_block (w:=w) (a:=⟨b,0+j,none⟩) c];exact h j e
theorem Py{d:Array Int}(h:Holds encZ w b 0 d){i:Nat}(f:i<d.size)(u:Int):Holds encZ (w.setCell ⟨b,i,none⟩ (.int .i64 u)) b 0 (d.setIfInBounds i u):=fun j c=>by
 have a:j<d.size:=by simpa using c
 rw[World.frozen?_setCell];refine⟨?_,(h j a).2⟩;rw[zero_add];by_cases e:j=i
 ·subst e;rw[World.cell?_setCell_same _ _ _ (u:=encZ d[j]!) (by have:=(h j a).1;rw[zero_add] at this;exact this)];rw[getElem!_pos (d.setIfInBounds j u) j c,Array.getElem_setIfInBounds_self]
 ·rw[World.cell?_setCell_other _ _ _ _ (fun z=>e (by injection z with _ z;exact z.symm))];have:=(h j a).1;rw[zero_add] at this;rw[this,getElem!_pos (d.setIfInBounds i u) j c,Array.getElem_setIfInBounds_ne _ (fun z=>e z.symm),getElem!_pos d j a]
theorem FY(b:Nat):∀(a:List Value) (o:Nat) (w:World),Wt (fun i=>i=b) w (w.setCells b o a)
 | [],o,w=>⟨rfl,rfl,rfl,le_refl _,fun _ _ _=>rfl⟩
 |v::a,o,w=>Wt.trans (w1:=w.setCell ⟨b,o,none⟩ v) ⟨rfl,rfl,rfl,by simp,fun m _ c=>heap_setCell_other _ _ _ _ c⟩ (FY b a (o+1) _)
theorem Ya(ef:∀E w,(callFunc f E).run prog w=.ok (.enter f E) w)(hp:LF f lb p Ok L)(hk:∀W,Wt (fun i=>i=b) w W->Ok W)(hl:L.length<=1000)(hcap:L.length<=cap)(Y:b<w.heap.size)(Q:Holds encZ w b 0 L.toArray):Calls prog 207 #[.slice (some ⟨b,0,none⟩) L.length cap,.func (.func f) #[] lb] w fun e V=>e=.returned (.slice (some ⟨b,0,none⟩) (L.filter fun x=>!p x).length cap)/\(∀j (g:j<(L.filter fun x=>!p x).length),V.cell? ⟨b,j,none⟩=some (.int .i64 (L.filter fun x=>!p x)[j]))/\Wt (fun i=>i=b) w V:=by
 have v:=ML (w:=w) (b:=b) (cap:=cap) ef hp (fun W B=>hk W (.below _ B)) hl Y (fun j g=>by
  have:=(Q j (by simpa using g)).1;rw[zero_add] at this;rw[this,getElem!_pos L j g,getElem!_pos L.toArray j (by simpa using g)];simp)
 obtain⟨o,N⟩:∃o:Nat->Bool,Hid (o=fun j=>!p L.toArray[j]!):=⟨_,rfl⟩;have k:(L.filter fun x=>!p x)=keptUpTo o L.toArray L.toArray.size:=by
  rw[N.out];exact(keptUpTo_filter (fun x=>!p x) L.toArray).symm
 have F:∀j,j<L.length->L[j]! = L.toArray[j]! := fun j g=>by rw[getElem!_pos L j g,getElem!_pos L.toArray j (by simpa using g)];simp
 have HKO:Aside (∀W,Wt (fun i=>i=b) w W->Ok W):=hk;have HP:Aside (LF f lb p Ok L):=hp;have G:Wt (fun i=>i=b) w w:=⟨rfl,rfl,rfl,le_refl _,fun _ _ _=>rfl⟩;have T:L.toArray.size=L.length:=by simp
 have H:∀W,Wt (fun i=>i=b) w W->b<W.heap.size:=fun W B=>Nat.lt_of_lt_of_le Y B.size;clear hk hp;rcases idxByFrom_spec (fun _ y=>p y) default L 0 with⟨S,d⟩|⟨q,hk0,S,X,d⟩
 ·have R:Lib.idxBy (fun _ y=>p y) L default=-1:=S;rw[R] at v;have c:∀j,j<L.toArray.size->o j=true:=fun j g=>by rw[N.out];show (!p L.toArray[j]!)=true;rw[<-F j (by omega),d j (by omega)];rfl
  have e3:(L.filter fun x=>!p x)=L:=by rw[k,keptUpTo_all o _ _ c,range_map_get]
  have h:∀W,Below w.heap.size w W->(∀j (g:j<L.length),W.cell? ⟨b,j,none⟩=some (.int .i64 L[j]))/\Wt (fun i=>i=b) w W:=fun W B=>by
   refine⟨fun j g=>?_,.below _ B⟩;rw[B.cell (p:=⟨b,j,none⟩) Y];have:=(Q j (by simpa using g)).1;rw[zero_add,<-F j g,getElem!_pos L j g] at this;exact this
  rw[e3];clear Q k e3 c d S R F H G;go_enter func207,ntmps207
  go_wp2_with (go_at_call 270;refine v.mono ?_;rintro e V ⟨rfl,s⟩)
  go_ret;obtain⟨f1,f2⟩:=h _ s;exact⟨rfl,f1,f2⟩
 ·have R:Lib.idxBy (fun _ y=>p y) L default=(q:Int):=by unfold Lib.idxBy;rw[S];simp
  rw[R] at v;have c:∀j,j<q->o j=true:=fun j g=>by rw[N.out];show (!p L.toArray[j]!)=true;rw[<-F j (by omega),d j g];rfl
  have I:o q=false:=by rw[N.out];show (!p L.toArray[q]!)=false;rw[<-F q hk0,show p L[q]! = true from X];rfl
  have hne1:((q:Int) == -1)=false:=beq_eq_false_iff_ne.2 (by omega);have HH:Aside (Holds encZ w b 0 L.toArray):=Q;have U:Aside ((L.filter fun x=>!p x)=keptUpTo o L.toArray L.toArray.size):=k;have HTL:Aside (∀j,j<L.length->L[j]! = L.toArray[j]!):=F;have Z:Aside (L.toArray.size=L.length):=T;have HGL:Aside (∀W,Wt (fun i=>i=b) w W->b<W.heap.size):=H;clear Q d X S R k F T H;go_enter func207,ntmps207
  go_wp2_with (go_at_call 270;refine v.mono ?_;rintro e V ⟨rfl,s⟩)
  go_loopg [5,6,7] L.length (fun gg s5 s6 _ wr=>∃(i j:Nat) (D:Array Int),s5=.int .i64 i/\s6=.int .i64 j/\j<=L.length/\L.length-j<=gg/\Aside (Holds encZ wr b 0 D)/\Wt (fun i=>i=b) w wr/\Aside (KeptInv o L.toArray j i D))
  case atStart=>exact⟨q,q+1,L.toArray,rfl,by go_num,by omega,by omega,pI HH.out (s.block b Y),.below _ s,KeptInv.start c I⟩
  case round=>
   obtain⟨i,j,D,rfl,rfl,hjd,hgg,M,l,I2⟩:=hrel;have K:=I2.out;have hij:=K.lt;have hds:=K.size;rw[Z.out] at hds;by_cases r:j<L.length
   ·have O:(j:Int)<(L.length:Int):=by omega
    obtain⟨cj,_⟩:=M.out j (by omega);rw[K.high j (by omega),zero_add] at cj;have z:L.toArray[j]! ∈ L:=by rw[<-HTL.out j r,getElem!_pos L j r];exact List.getElem_mem r
    have a:=HP.out wr L.toArray[j]! (HKO.out wr l) z;have J:=HGL.out wr l;generalize hu:L.toArray[j]! = u at cj a;have C:Aside (L.toArray[j]! = u):=hu;clear hu K z;cases hq:p u with
    |false=>
     rw[hq] at a;have P:∀W,Below wr.heap.size wr W->W.cell? ⟨b,i,none⟩=some (encZ D[i]!)/\W.frozen? ⟨b,i,none⟩=false:=fun W B=>by
      have:=(pI M.out (B.block b J)) i (by omega);rw[zero_add] at this;exact this
     have HCI:Aside (∀W,Below wr.heap.size wr W->W.cell? ⟨b,i,none⟩=some (encZ D[i]!)/\W.frozen? ⟨b,i,none⟩=false):=P;clear P;go_wp2_with (go_at_fn f;refine a.mono ?_;rintro e w2 ⟨rfl,n⟩;obtain⟨ci,fi⟩:=HCI.out w2 n;unfold encZ at ci)
     go_roundg (L.length-(j+1))
     case measure=>omega
     case rel=>
      refine⟨i+1,j+1,D.setIfInBounds i u,by go_num,by go_num,by omega,le_refl _,(show Aside _ from Py (pI M.out (n.block b J)) (by omega) u),?_,(show Aside _ from ?_)⟩
      ·exact(l.trans (.below _ n)).trans ⟨rfl,rfl,rfl,by simp,fun m hm hne=>by rw[heap_setCell_other _ _ _ _ hne]⟩
      ·have:=I2.out.keep (by rw[Z.out];exact r) (by rw[N.out];show (!p L.toArray[j]!)=true;rw[C.out,hq];rfl);rwa[C.out] at this
    |true=>
     rw[hq] at a;go_wp2_with (go_at_fn f;refine a.mono ?_;rintro e w2 ⟨rfl,n⟩)
     go_roundg (L.length-(j+1))
     case measure=>omega
     case rel=>exact⟨i,j+1,D,rfl,by go_num,by omega,le_refl _,pI M.out (n.block b J),l.trans (.below _ n),I2.out.skip (by rw[N.out];show (!p L.toArray[j]!)=false;rw[C.out,hq];rfl)⟩
   ·obtain rfl:j=L.length:=by omega
    have O:¬(L.length:Int)<(L.length:Int):=by omega
    have hcl:∀ty,(Builtin.clear_ #[46] ty #[.slice (some ⟨b,i,none⟩) (L.length-i) (cap-i)]).run prog wr=.ok (.tuple #[]) (wr.setCells b i (List.replicate (L.length-i) (.int .i64 0))):=
     fun ty=>Lib.run_clear_slice wr _ _ ty _ Tryz.underlying46 (fun _=>Tryz.zeroValue3 _) rfl rfl b i _ _ (by omega) (fun t X=>by have:=(M.out (i+t) (by omega)).1;rw[zero_add] at this;rw[this];rfl) (fun t X=>by have:=(M.out (i+t) (by omega)).2;rw[zero_add] at this;exact this)
    have A:(L.filter fun x=>!p x).length=i:=by rw[U.out,Z.out];exact K.len
    have h:(∀j (g:j<(L.filter fun x=>!p x).length),(wr.setCells b i (List.replicate (L.length-i) (.int .i64 0))).cell? ⟨b,j,none⟩=some (.int .i64 (L.filter fun x=>!p x)[j]))/\Wt (fun i=>i=b) w (wr.setCells b i (List.replicate (L.length-i) (.int .i64 0))):=by
     refine⟨fun m hm=>?_,?_⟩
     ·rw[World.cell?_setCells_out b _ _ _ _ (fun _ _=>.inl (by show m<i;omega))];have h1:=(M.out m (by omega)).1;rw[zero_add] at h1;rw[h1];have h2:=K.low m (by omega);have h3:(L.filter fun x=>!p x)[m]? = some D[m]! := by rw[U.out,Z.out];exact h2
      rw[List.getElem?_eq_getElem hm] at h3;rw[Option.some.inj h3]
     ·refine l.trans ?_;exact FY b _ i wr
    have HLE:Aside _:=A;have hic:(i:Int)<=(cap:Int):=by omega
    clear K l A;go_wp2_with fail
    go_ret;exact⟨by rw[HLE.out];rfl,h.1,h.2⟩
end
end Go.Proofs.YtippochapiolpaaGreatDoor

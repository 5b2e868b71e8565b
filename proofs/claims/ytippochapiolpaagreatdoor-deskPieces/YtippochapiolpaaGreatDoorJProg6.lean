/- Ours. -/
import Derived.Test.YtippochapiolpaaGreatDoorJProg4
import Derived.Test.YtippochapiolpaaGreatDoorJRow
set_option maxHeartbeats 4000000
set_option maxRecDepth 100000
namespace Go.Proofs.YtippochapiolpaaGreatDoor
open Go.Proofs.Tryz(func160 ntmps160 prog)
section
open Go.RowKit Go.Maps Go.Sort Go.Shelf Go.Lib
theorem Oc(m:Nat):AnyZI.SortsIn prog Tryz.sortedL_ren Fence.wide m:=
 ⟨fun e c a f W g b d=>callsIn_wide.2 (AnyM.slices_Sort_int Tryz.sortIL e c a f W g b d),
  fun p a W=>callsIn_wide.2 (AnyM.slices_Sort_int_none Tryz.sortIL p a W)⟩
section
variable {w w':World}{t g c:Nat}{P:Ps}{n pid:Int}
theorem QM.Rb(h:QM w t g P c):n∈aH P↔(P n).isSome=true:=by
 unfold aH;rw[List.mem_filter];constructor
 ·exact fun z=>z.2
 ·intro z;obtain⟨p,a⟩:=Option.isSome_iff_exists.1 z;have:=h.key n p a;exact⟨List.mem_map.2 ⟨(n-1).toNat,List.mem_range.2 (by omega),by omega⟩,z⟩
theorem QM.ac3(h:QM w t g P c):Calls prog 146 #[wp t] w fun e d=>∃v,e=.returned v/\d.ownsRow w.heap.size 3 1 v (aH P).length ((aH P).map encZ)/\Below w.heap.size w d:=by
 obtain⟨D,l,p,q,B,a⟩:=h.map.data;have O:=h.c0;have r:=h.map.lt;have J:=h.few;have k:=fun x=>h.Rb (n:=x);refine(callsIn_wide (n:=6)).1 ?_;have i:SeqGives Fence.wide 2 prog 290 #[.pointer (some ⟨w.heap.size,0,none⟩)] encZ (fun f=>f.Perm (Go.intKeys D)) (Maps.size D) (w.alloc (.cells #[.map (some g)] 127)):=
  AnyZI.keys_gives (ρ:=Tryz.keysL_ren) { Tryz.keysL with } Fence.wide _ trivial rfl (by omega) w.heap.size g c D _ (by simp) (by simp) (by
   obtain⟨L,b,s,N,F,K⟩:=l;exact⟨L,b,(Below.heap_alloc _ _ g r).trans s,N,F,K⟩)
 have M:∀o W,CallsIn Fence.wide 5 prog 218 #[.map o] W fun e d=>e=.returned (.func (.func 290) #[] #[.pointer (some ⟨W.heap.size,0,none⟩)])/\d=W.alloc (.cells #[.map o] 127):=fun o W=>AnyZI.keys_in Tryz.keysL Fence.wide 5 trivial rfl o W;have E:=AnyZI.sorted_in Tryz.sortedL Fence.wide 5 trivial trivial trivial trivial rfl (by omega) (Oc _) (enters_of Tryz.func289 (by kernel_rfl) rfl) 290 #[.pointer (some ⟨w.heap.size,0,none⟩)] trivial (enters_of Tryz.func290 (by kernel_rfl) rfl) _ _ (by rw[p];unfold maxLen;omega) (by omega) _ i;change CallsIn _ _ prog 217 _ _ _ at E;have I:Fence.wide.fn 218:=trivial;have H:Fence.wide.fn 217:=trivial;have u:Aside (∀x,x∈aH P↔(P x).isSome=true):=k;have z:Aside _:=a;clear k a J;refine callsIn_of_wp Tryz.func146 rfl trivial ?_ rfl;simp only[Tryz.ntmps146,List.size_toArray,List.length_cons,List.length_nil,Nat.reduceAdd,Nat.reduceSub,Array.replicate_succ,Array.replicate_zero,List.push_toArray,List.append_toArray,List.nil_append,List.cons_append];gi_wp2_with (first
  |(gi_at_call 218;refine(M _ _).mono ?_;rintro e d ⟨rfl,rfl⟩)
  |(gi_at_call 217;refine E.mono ?_;rintro e d ⟨v,f,rfl,C,j,A,s⟩))
 go_ret;have G:f.Nodup:=C.nodup_iff.2 q;have m:f.mergeSort (fun x y=>decide (x<=y))=aH P:=Wu (V9 G) (vD P) (fun x=>by
  rw[(List.mergeSort_perm f _).mem_iff,C.mem_iff,z.out,u.out,Option.isSome_map])
 refine⟨v,rfl,?_,((Below.refl _ w).alloc (Nat.le_refl _) _).trans (s.mono (by simp))⟩;rw[<-m,List.length_mergeSort];exact ownsRow_base_a j (by simp)
theorem QM.si(h:QM w t g P c)(i:(P n).isSome=true):Calls prog 146 #[wp t] w fun e d=>∃b a,e=.returned (.slice (some ⟨b,0,none⟩) (aH P).length a)/\(aH P).length<=a/\w.heap.size<=b/\b<d.heap.size/\Holds encZ d b 0 (aH P).toArray/\Below w.heap.size w d:=by
 refine h.ac3.mono ?_;rintro e q ⟨v,rfl,f,m⟩;have z:0<(aH P).length:=List.length_pos_of_mem (h.Rb.2 i);rcases f.2 with⟨_,x⟩|⟨o,j,p,rfl,y,k,u,s,r,l⟩
 ·omega
 ·exact⟨o,j,rfl,by omega,by omega,lt_of_block k,holds_of_block_i k (by simpa using l),m⟩
theorem OW(h:QM w t g P c){x y:Nat}(s:w.cell? ⟨x,0,none⟩=some (wp t))(d:w.cell? ⟨y,0,none⟩=some (.int .i64 pid))(n:Int)(m:(Lit.int .i64 n).wf=true):Calls prog 318 #[.int .i64 n,.pointer (some ⟨x,0,none⟩),.pointer (some ⟨y,0,none⟩)] w fun e j=>e=.returned (.bool (!Bi P pid n))/\Below w.heap.size w j:=by
 have o:=fun W (b:Below w.heap.size w W)=>(h.below b).parent n m;have l:(!Bi P pid n)=(xR P n != pid):=by unfold Bi;by_cases e:xR P n=pid<;>simp[e]
 rw[l];generalize xR P n=r at *;have a:y<w.heap.size:=World.block_lt_of_cell? w _ d;have q:Aside (∀W,Below w.heap.size w W->W.cell? ⟨y,0,none⟩=some (.int .i64 pid)):=fun W b=>by rw[b.cell (p:=⟨y,0,none⟩) a];exact d
 go_enter Tryz.func318,Tryz.ntmps318
 go_upto_region 1 with fail
 go_region_with (go_at_call 281;refine(o _ (by first|exact bP (Below.refl _ _) | exact Below.refl _ _)).mono ?_;rintro e i ⟨rfl,f⟩;have k:=q.out i ((bP (Below.refl _ w)).trans (f.mono (by exact Nat.le_refl _))))
 all_goals
  go_wp2_with fail
  go_ret;exact⟨rfl,(bP (Below.refl _ w)).trans (f.mono (by exact Nat.le_refl _))⟩
def gM(P:Ps)(pid:Int):List Int:=(aH P).filter (Bi P pid)
theorem QM.own(h:QM w t g P c)(G:(P n).isSome=true)(pid:Int):Calls prog 269 #[wp t,.int .i64 pid] w fun e y=>∃b d,e=.returned (.slice (some ⟨b,0,none⟩) (gM P pid).length d)/\(gM P pid).length<=d/\w.heap.size<=b/\b<y.heap.size/\(∀j (hj:j<(gM P pid).length),y.cell? ⟨b,j,none⟩=some (.int .i64 (gM P pid)[j]))/\Below w.heap.size w y:=by
 have N:=lH P;have H:(aH P).filter (fun x=>!(!Bi P pid x))=gM P pid:=by unfold gM;congr 1;funext x;simp
 have Z:(gM P pid).length<=(aH P).length:=by unfold gM;exact List.length_filter_le _ _
 have v:Below w.heap.size w (w.alloc (.cells #[wp t] 62)):=(Below.refl _ w).alloc (Nat.le_refl _) _;have E:Below w.heap.size w ((w.alloc (.cells #[wp t] 62)).alloc (.cells #[.int .i64 pid] 3)):=v.alloc v.size _;obtain⟨o,F⟩:∃o,(w.alloc (.cells #[wp t] 62)).alloc (.cells #[.int .i64 pid] 3)=o:=⟨_,rfl⟩;rw[F] at E;have r:o.heap.size=w.heap.size+2:=by rw[<-F];show ((w.heap.push _).push _).size=_;rw[Array.size_push,Array.size_push]
 have R:o.cell? ⟨w.heap.size,0,none⟩=some (wp t):=by
  rw[<-F,World.cell?_alloc_lt _ _ ⟨w.heap.size,0,none⟩ (by show w.heap.size<(w.heap.push _).size;rw[Array.size_push];omega)];rw[cell_of_row _ _ _ _ _ _ (show (w.heap.push _)[w.heap.size]? = some _ by rw[Array.getElem?_push,if_pos rfl])];rfl
 have Q:o.cell? ⟨w.heap.size+1,0,none⟩=some (.int .i64 pid):=by
  rw[<-F];rw[cell_of_row _ _ _ _ _ _ (show ((w.heap.push _).push _)[w.heap.size+1]? = some _ by rw[Array.getElem?_push,if_pos (by rw[Array.size_push])])];rfl
 have A:=h.below E;have K:=A.si G;have O:∀b d W,(aH P).length<=d->o.heap.size<=b->b<W.heap.size->Holds encZ W b 0 (aH P).toArray->Below o.heap.size o W->Calls prog 207 #[.slice (some ⟨b,0,none⟩) (aH P).length d,.func (.func 318) #[] #[.pointer (some ⟨w.heap.size,0,none⟩),.pointer (some ⟨w.heap.size+1,0,none⟩)]] W fun e y=>e=.returned (.slice (some ⟨b,0,none⟩) (gM P pid).length d)/\(∀j (hj:j<(gM P pid).length),y.cell? ⟨b,j,none⟩=some (.int .i64 (gM P pid)[j]))/\Wt (fun i=>i=b) W y:=fun b d W m z u D C=>by
  have:=Ya (w:=W) (b:=b) (cap:=d) (f:=318) (lb:=#[.pointer (some ⟨w.heap.size,0,none⟩),.pointer (some ⟨w.heap.size+1,0,none⟩)]) (p:=fun x=>!Bi P pid x) (Ok:=fun V=>QM V t g P c/\V.cell? ⟨w.heap.size,0,none⟩=some (wp t)/\V.cell? ⟨w.heap.size+1,0,none⟩=some (.int .i64 pid)) (L:=aH P) (enters_of Tryz.func318 (by kernel_rfl) rfl) (fun V x s T=>by
   obtain⟨q,Y⟩:=Option.isSome_iff_exists.1 (h.Rb.1 T);have:=h.key x q Y;exact OW s.1 s.2.1 s.2.2 x (uq (by omega))) (fun V s=>by
   have J:=A.below C;have h1:=A.Zi;have h2:=A.map.lt;have h3:=C.size;refine⟨J.keep (s.block t (by omega) (by omega)) (s.block g (by omega) (by omega)),?_,?_⟩
   ·rw[World.cell?_of_block (w:=W) (a:=⟨w.heap.size,0,none⟩) (s.block w.heap.size (by omega) (by omega)),C.cell (p:=⟨w.heap.size,0,none⟩) (by show w.heap.size < _;omega)];exact R
   ·rw[World.cell?_of_block (w:=W) (a:=⟨w.heap.size+1,0,none⟩) (s.block (w.heap.size+1) (by omega) (by omega)),C.cell (p:=⟨w.heap.size+1,0,none⟩) (by show w.heap.size+1 < _;omega)];exact Q) (by omega) m u D
  rw[H] at this;exact this
 have HD:Aside _:=O;have VA:Aside (o.heap.size=w.heap.size+2):=r;have HA:Aside (Below w.heap.size w o):=E;clear O r E v A;go_enter Tryz.func269,Tryz.ntmps269
 go_wp2_with (first
  |(go_at_call 146;refine K.mono ?_;rintro e S ⟨b,d,rfl,m,z,u,D,k⟩;have M:=HD.out b d S m z u D k;clear D)
  |(go_at_call 207;refine M.mono ?_;rintro e w2 ⟨rfl,I,l⟩))
 go_ret;have hs:=VA.out;have B:=HA.out;have X:=k.size;have U:=l.size;exact⟨b,d,rfl,by omega,by omega,by omega,I,⟨l.os.trans (k.os.trans B.os),l.tape.trans (k.tape.trans B.tape),l.output.trans (k.output.trans B.output),by omega,fun i hi=>((l.block i (by omega) (by omega)).trans (k.block i (by omega))).trans (B.block i hi)⟩⟩
end
end
section
open Go.RowKit Go.Maps Go.Sort
section
variable {w w' V:World}{t g c:Nat}{P:Ps}{n m sig pid k:Int}{p q:Pr}
theorem QJ.aaO(h:QJ w t g P c)(i:uD P k)(y:k<=24):Calls prog 228 #[wp t] w fun e n=>e=.returned (.int .i64 k)/\Below w.heap.size w n:=by
 have u:=i.pos;go_enter Tryz.func228,Tryz.ntmps228
 go_wp2_with fail
 go_loopg [3] 25 (fun o s3 wr=>∃x:Nat,x+o=26/\1<=x/\(x:Int)<=k/\s3=.int .i64 (x:Int)/\Below w.heap.size w wr)
 case atStart=>exact⟨1,by omega,by omega,by omega,rfl,Below.refl _ _⟩
 case round=>
  obtain⟨x,v,q,p,rfl,a⟩:=hrel;have l:=(h.below a).toQM.state x (uq (by omega));by_cases b:(x:Int)=k
  ·rw[b,lY i.no] at l;rw[b] at *;go_wp2_with (go_at_call 147;refine l.mono ?_;rintro e m ⟨rfl,j⟩)
   go_ret;exact⟨rfl,a.trans (j.mono a.size)⟩
  ·have d:=i.all x (by omega) (by omega);have f:=h.ok.isSome.1 d;have r:(nN P x==0)=false:=by simpa using f
   generalize nN P x=s at *;go_wp2_with (go_at_call 147;refine l.mono ?_;rintro e m ⟨rfl,j⟩)
   go_roundg (gk-1)
   case measure=>omega
   case rel=>exact⟨x+1,by omega,by omega,by omega,by go_num,a.trans (j.mono a.size)⟩
theorem JD.fork(h:JD P)(pid k:Int):JD (fP P pid k):=h.set (fun s z=>by cases z) (fun z=>by cases z)
theorem QJ.fork(h:QJ w t g P c)(pid:Int)(L:(Lit.int .i64 pid).wf=true):Calls prog 160 #[wp t,.int .i64 pid] w fun e N=>e=.returned (.tuple #[.int .i64 (oq P pid c),aI (lQ P pid c)])/\Fw w t g (oo P pid c) N:=by
 have n:=h.toQM.runs pid L;have C:=fun V (i:Below w.heap.size w V)=>(h.toQM.below i).c0;have H:Aside _:=C;cases nO:aD P pid with
 |false=>
  rw[nO,if_neg (by simp),ax (by omega)] at n;have f:lQ P pid c=7:=by unfold lQ;rw[if_pos nO]
  have u:oq P pid c=0:=by unfold oq;rw[f,if_neg (by omega)]
  have s:oo P pid c=P:=by unfold oo;rw[f,if_neg (by omega)]
  rw[f,u,s,ax (by omega)];go_enter func160,ntmps160
  go_wp2_with (go_at_call 227;refine n.mono ?_;rintro e l ⟨rfl,d⟩)
  go_ret2;exact⟨rfl,.same h d⟩
 |true=>
  rw[nO,if_pos rfl,aB] at n;by_cases M:24<=c
  ·have f:lQ P pid c=12:=by unfold lQ;rw[if_neg (by rw[nO];simp),if_pos M]
   have u:oq P pid c=0:=by unfold oq;rw[f,if_neg (by omega)]
   have s:oo P pid c=P:=by unfold oo;rw[f,if_neg (by omega)]
   rw[f,u,s,ax (by omega)];have G:(24:Int)<=(c:Int):=by omega
   go_enter func160,ntmps160
   go_upto_region 4 with (go_at_call 227;refine n.mono ?_;rintro e l ⟨rfl,d⟩)
   have O:=H.out l d;have x:=(h.toQM.below d).map;go_wp2_with (at_len;refine ik rfl _ 127 rfl 126 Tryz.underlying127 g _ _ rfl x ?_)
   go_ret2;exact⟨rfl,.same h d⟩
  ·have f:lQ P pid c=0:=by unfold lQ;rw[if_neg (by rw[nO];simp),if_neg M]
   obtain⟨k,r,b⟩:=uD.ex h.toQM.num (by omega);have u:oq P pid c=k:=by unfold oq;rw[if_pos f,wN r b]
   have s:oo P pid c=fP P pid k:=by unfold oo;rw[if_pos f,wN r b]
   rw[f,u,s,aB];obtain⟨q,K,m⟩:=dx.1 nO;have G:(c:Int)<24:=by omega
   have A:=r.pos;have B:Yy P pid=q.ig:=by unfold Yy;rw[K];rfl
   have o:∀V,Below w.heap.size w V->∃j,(Instr.mapUpdate 127 (.map (some g)) (.int .i64 k) (.agg #[.int .i64 1,.int .i64 pid,.int .i64 0,.int .u64 0,.int .u64 ((iU q.ig:Nat):Int)])).run prog V=.ok () j/\Fw w t g (fP P pid k) j:=fun V i=>by
    obtain⟨j,a,E,s5⟩:=h.toQM.put i k ⟨A,b⟩ ⟨pid,1,0,fF,Yy P pid⟩;have e:qv ⟨pid,1,0,fF,Yy P pid⟩=.agg #[.int .i64 1,.int .i64 pid,.int .i64 0,.int .u64 0,.int .u64 ((iU q.ig:Nat):Int)]:=by
     unfold qv Nh;simp only[B,if_true];unfold mv;rw[Jw];rfl
    rw[e] at a;exact⟨j,a,_,⟨E,h.ok.fork nO r b,h.dj.fork pid k⟩,s5⟩
   have Q:Aside _:=o;have p:=fun V (i:Below w.heap.size w V)=>(h.toQM.below i).xu K L;rw[m,yt m] at p;have I:Aside _:=p;have y:=fun V (i:Below w.heap.size w V)=>(h.below i).aaO r b;have J:Aside _:=y;go_enter func160,ntmps160
   go_upto_region 4 with (go_at_call 227;refine n.mono ?_;rintro e l ⟨rfl,d⟩)
   have O:=H.out l d;have x:=(h.toQM.below d).map;have z:=J.out l d;go_upto_region 7 with (first
    |(at_len;refine ik rfl _ 127 rfl 126 Tryz.underlying127 g _ _ rfl x ?_)
    |(go_at_call 228;refine z.mono ?_;rintro e v ⟨rfl,D⟩))
   have F:Below w.heap.size w v:=d.trans (D.mono d.size);have T:=H.out v F;have R:=I.out _ (bP F);have S:=(VC 1 q.parent q.code (iU q.wt:Nat) (iU q.ig:Nat) v.drew).2.2.2;obtain⟨j,a,E⟩:=Q.out _ (bP F)
   go_region
   all_goals
    go_wp2_with fail
    go_ret2;exact⟨rfl,E⟩
theorem QM.hand(h:QM w t g P c)(j:P n=some q)(d:Int):Calls prog 282 #[wp t,.int .i64 n,.int .i64 d] w fun e k=>e=.returned (.tuple #[])/\QM k t g (nZ P n { q with parent:=d }) c/\Vg g w k:=by
 have m:=h.key n q j;have s:=h.c0;have p:=h.xu j (uq (by omega));have f:∀V,Below w.heap.size w V->∃b,(Instr.mapUpdate 127 (.map (some g)) (.int .i64 n) (.agg #[.int .i64 q.state,.int .i64 d,.int .i64 q.code,.int .u64 ((iU q.wt:Nat):Int),.int .u64 ((iU (Nh q):Nat):Int)])).run prog V=.ok () b/\QM b t g (nZ P n { q with parent:=d }) c/\Vg g w b:=fun V o=>by
  obtain⟨b,a,i,s5⟩:=h.put o n m { q with parent:=d };rw[j] at i;exact⟨b,a,i,s5⟩
 have l:=(Below.refl _ w).alloc (Nat.le_refl _) (.cells #[.int .i64 q.state,.int .i64 d,.int .i64 q.code,.int .u64 ((iU q.wt:Nat):Int),.int .u64 ((iU (Nh q):Nat):Int)] 126);obtain⟨b,a,i⟩:=f _ (bP l);have r:=(h.below l).c0;go_enter Tryz.func282,Tryz.ntmps282
 go_upto_region 2 with fail
 go_region
 all_goals
  go_wp2_with fail
  go_end0
  exact⟨rfl,i⟩
end
end
end Go.Proofs.YtippochapiolpaaGreatDoor

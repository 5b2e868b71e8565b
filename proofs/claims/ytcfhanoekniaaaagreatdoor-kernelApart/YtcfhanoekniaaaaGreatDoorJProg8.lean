/- Package proc: Exit, by its Go text. -/
import Derived.Test.YtcfhanoekniaaaaGreatDoorJProg6
import Derived.Deep.DeepCutAuto
set_option maxHeartbeats 4000000
set_option maxRecDepth 100000
namespace Go.Proofs.YtcfhanoekniaaaaGreatDoor
open Go.RowKit Go.Maps Go.Sort
def handed (P:Ps) (S:List Int):Ps:=fun n=>if n∈S then (P n).map (fun q=>{ q with parent:=1 }) else P n
def om (P:Ps) (pid code:Int) (q:Pr):Ps:=nQ P pid { q with state:=2,code:=code,wt:=eB }
section
variable {w w' V:World}{t g c:Nat}{P:Ps}{n m sig pid k code:Int}{p q:Pr}
theorem F4:handed P []=P:=by funext n;unfold handed;simp
theorem F6 {L:List Int}{x:Int}(hx:x∉L) (hp:P x=some q):handed P L x=some q∧nQ (handed P L) x { q with parent:=1 }=handed P (L ++ [x]):=by
 refine ⟨by unfold handed;rw [if_neg hx];exact hp,?_⟩
 funext i
 unfold nQ handed
 by_cases e:i=x
 ·subst e;simp [hp]
 ·simp [e]
theorem F5 (ok:nU P) (hq:P pid=some q) (h1:pid≠1):handed (om P pid code q) (fH (om P pid code q) pid)=dz P pid code:=by
 have hpn:=(ok.par pid q hq h1).2
 have ho:∀i,i∈fH (om P pid code q) pid↔i≠pid∧∃r,P i=some r∧r.parent=pid:=fun i=>by
  unfold fH
  rw [List.mem_filter]
  unfold yA
  rw [decide_eq_true_iff]
  by_cases e:i=pid
  ·subst e
   have hd:om P i code q i=some { q with state:=2,code:=code,wt:=eB }:=mJ _ _ _
   rw [mP hd]
   constructor
   ·rintro ⟨_,z⟩;exact absurd z hpn
   ·rintro ⟨z,_⟩;exact absurd rfl z
  ·have hd:om P pid code q i=P i:=o5 e
   constructor
   ·rintro ⟨z1,z2⟩
    unfold ah at z1
    have:=(List.mem_filter.1 z1).2
    rw [hd] at this
    obtain ⟨r,hr⟩:=Option.isSome_iff_exists.1 this
    have hd2:om P pid code q i=some r:=hd.trans hr
    rw [mP hd2] at z2
    exact ⟨e,r,hr,z2⟩
   ·rintro ⟨_,r,hr,hp⟩
    have hd2:om P pid code q i=some r:=hd.trans hr
    have hk:=ok.key i r hr
    refine ⟨?_,by rw [mP hd2];exact hp⟩
    unfold ah
    exact List.mem_filter.2 ⟨List.mem_map.2 ⟨(i-1).toNat,List.mem_range.2 (by omega),by omega⟩,by rw [hd2];rfl⟩
 funext i
 unfold handed dz
 by_cases e:i=pid
 ·subst e
  rw [if_neg (fun z=>((ho i).1 z).1 rfl),hq]
  show nQ _ _ _ _=_
  rw [mJ]
  simp only [Option.map_some,jX,if_true,if_neg hpn]
 ·have hd:om P pid code q i=P i:=o5 e
  rw [hd]
  cases hr:P i with
  |none=>split<;>rfl
  |some r=>
   by_cases hp:r.parent=pid
   ·rw [if_pos ((ho i).2 ⟨e,r,hr,hp⟩)]
    simp only [Option.map_some,jX,if_neg e,if_pos hp]
   ·rw [if_neg (fun z=>by
     obtain ⟨_,r',hr',hp'⟩:=(ho i).1 z
     rw [hr] at hr';cases hr'
     exact hp hp')]
    simp only [Option.map_some,jX,if_neg e,if_neg hp]
theorem JD.exit (h:JD P) (pid code:Int):JD (dz P pid code):=by
 have cs:∀i p,dz P pid code i=some p→∃q,P i=some q∧p=jX pid code i q:=fun i p e=>by
  unfold dz at e
  cases hq:P i with
  |none=>rw [hq] at e;cases e
  |some q=>rw [hq] at e;exact ⟨q,rfl,(Option.some.inj e).symm⟩
 refine ⟨fun i p e s z=>?_,fun i p e z=>?_⟩
 ·obtain ⟨q,hq,rfl⟩:=cs i p e
  rw [(mR q).1] at z
  rw [(mR q).2]
  split at z
  ·cases z
  ·exact h.Af i q hq s z
 ·obtain ⟨q,hq,rfl⟩:=cs i p e
  rw [rR] at z
  rw [(mR q).1]
  split
  ·rfl
  ·rename_i hne
   rw [if_neg hne] at z
   exact h.dead i q hq z
theorem Dh {P:Ps}{x:Int}(hx:x∈fH P pid):(P x).isSome=true:=by
 unfold fH at hx
 have:=(List.mem_filter.1 hx).1
 unfold ah at this
 exact (List.mem_filter.1 this).2
theorem FQ (P:Ps) (pid:Int):(fH P pid).Nodup:=(uH P).filter _
theorem Di (P:Ps) (pid:Int):(fH P pid).length≤24:=by
 have:=mO P
 have:(fH P pid).length≤(ah P).length:=by unfold fH;exact List.length_filter_le _ _
 omega
theorem QJ.exit (h:QJ w t g P c) (pid code:Int) (hn:(Lit.int .i64 pid).wf=true):Calls Tryz.prog 158 #[wp t,.int .i64 pid,.int .i64 code] w fun e w'=>e=.returned (aH (jC P pid))∧GH w t g (if jC P pid=0 then dz P pid code else P) w':=by
 have hr:=h.toQM.runs pid hn
 cases nT:ay P pid with
 |false=>
  rw [nT,if_neg (by simp),az (by omega)] at hr
  have hE:jC P pid=7:=by unfold jC;rw [if_pos nT]
  rw [hE,if_neg (by omega),az (by omega)]
  go_enter Tryz.func158,Tryz.ntmps158
  go_wp2_with (go_at_call 137;refine hr.mono ?_;rintro e w1 ⟨rfl,hb⟩)
  go_ret
  exact ⟨rfl,.same h hb⟩
 |true=>
  rw [nT,if_pos rfl,aC] at hr
  by_cases h1:pid=1
  ·have hE:jC P pid=6:=by unfold jC;rw [if_neg (by rw [nT];simp),if_pos h1]
   rw [hE,if_neg (by omega),az (by omega)]
   subst h1
   go_enter Tryz.func158,Tryz.ntmps158
   go_wp2_with (go_at_call 137;refine hr.mono ?_;rintro e w1 ⟨rfl,hb⟩)
   go_ret
   exact ⟨rfl,.same h hb⟩
  ·have hE:jC P pid=0:=by unfold jC;rw [if_neg (by rw [nT];simp),if_neg h1]
   rw [hE,if_pos rfl,aC]
   have hb1:(pid == 1)=false:=by simpa using h1
   obtain ⟨q,hq,hst⟩:=bY.1 nT
   have hk:=h.key pid q hq
   have hput:∀V,Below w.heap.size w V→∃w5,(Instr.mapUpdate 220 (.map (some g)) (.int .i64 pid) (.agg #[.int .i64 2,.int .i64 q.parent,.int .i64 code,.int .u64 0,.int .u64 0])).run Tryz.prog V=.ok () w5∧QM w5 t g (om P pid code q) c∧Pq g w w5:=fun V hV=>by
    obtain ⟨w5,hrun,h5,s5⟩:=h.toQM.put hV pid hk { q with state:=2,code:=code,wt:=eB }
    rw [hq] at h5
    have e:qv { q with state:=2,code:=code,wt:=eB }=.agg #[.int .i64 2,.int .i64 q.parent,.int .i64 code,.int .u64 0,.int .u64 0]:=by
     unfold qv LY;simp only [show ¬((2:Int)=1) by omega,if_false];unfold mv;rw [Fa];rfl
    rw [e] at hrun
    exact ⟨w5,hrun,h5,s5⟩
   have TR:Aside _:=hput
   have hco:=fun V (hV:Below w.heap.size w V)=>(h.toQM.below hV).c0
   have L9:Aside _:=hco
   have Yr:=fun V (hV:Below w.heap.size w V)=>(h.toQM.below hV).parent pid hn
   rw [mP hq] at Yr
   have HPA:Aside _:=Yr
   have hfin:∀W,QM W t g (dz P pid code) c→Pq g w W→GH w t g (dz P pid code) W:=fun W a b=>⟨c,⟨a,h.ok.exit nT h1,h.dj.exit pid code⟩,b⟩
   have hall:=F5 (code:=code) h.ok hq h1
   have hds:(om P pid code q pid).isSome=true:=by show (nQ _ _ _ _).isSome=true;rw [mJ];rfl
   have Yc:Aside _:=hfin
   clear hput hco Yr hst hfin
   generalize om P pid code q=P1 at *
   have HAL:Aside _:=hall
   clear hall
   go_enter Tryz.func158,Tryz.ntmps158
   go_upto_region 6 with (go_at_call 137;refine hr.mono ?_;rintro e w1 ⟨rfl,hb⟩)
   have c1:=L9.out w1 hb
   have p2:=HPA.out w1.drew (dm hb)
   go_cut [28] (fun _ W=>QM W t g P1 c∧Pq g w W)
   case first=>
    go_region_with (go_at_call 248;refine p2.mono ?_;rintro e w2 ⟨rfl,hb2⟩;have b2:Below w.heap.size w w2:=(dm hb).trans (hb2.mono hb.size);have c2:=L9.out w2 b2;obtain ⟨w5,hrun,h5⟩:=TR.out _ b2)
    all_goals
     go_wp2_with fail
     go_meet
     case rel=>exact h5
   case rest=>
    obtain ⟨hq1,hw1⟩:=hcut
    have hO:=hq1.own hds pid
    have hol:=Di P1 pid
    have hon:=FQ P1 pid
    have hom:=fun x (hx:x∈fH P1 pid)=>Dh (P:=P1) (pid:=pid) hx
    clear c1 p2 hr
    generalize fH P1 pid=L at *
    go_wp2_with (go_at_call 212;refine hO.mono ?_;rintro e w2 ⟨b,cap,rfl,hcap,hb1',hb2,hcc,hbel⟩)
    go_loopg [9,33] L.length (fun mm _ s33 wr=>∃i:Nat,i+mm=L.length∧s33=.int .i64 (i:Int)∧QM wr t g (handed P1 (L.take i)) c∧Pq g w2 wr)
    case atStart=>exact ⟨0,by omega,rfl,by rw [List.take_zero,F4];exact hq1.below hbel,.ofB (Below.refl _ _)⟩
    case round=>
     obtain ⟨i,hi,rfl,hQ,hW⟩:=hrel
     by_cases hlt:(i:Int)<(L.length:Int)
     ·have aD:i<L.length:=by omega
      have hgw:g<wc.heap.size:=hq1.map.lt
      have cb:wr.cell? ⟨b,i,none⟩=some (.int .i64 L[i]):=by
       rw [World.cell?_of_block (w:=w2) (a:=⟨b,i,none⟩) (hW.block b hb2 (by omega))];exact hcc i aD
      obtain ⟨r,hr⟩:=Option.isSome_iff_exists.1 (hom _ (List.getElem_mem aD))
      have hni:L[i]∉L.take i:=fun z=>by
       obtain ⟨j,hj,e⟩:=List.getElem_of_mem z
       rw [List.getElem_take] at e
       rw [List.length_take] at hj
       have:=(List.getElem_inj hon).1 e
       omega
      obtain ⟨a1,a2⟩:=F6 (L:=L.take i) hni hr
      have hH:=hQ.hand a1 1
      rw [a2,←take_add aD] at hH
      have abn:(i:Int)<(cap:Int):=by omega
      clear a2 hni hQ hr a1
      generalize L[i]=X at *
      go_wp2_with (go_at_call 249;refine hH.mono ?_;rintro e w3 ⟨rfl,hq3,hw3⟩)
      go_roundg (gk-1)
      case measure=>omega
      case rel=>exact ⟨i+1,by omega,by go_num,hq3,hW.trans hw3⟩
     ·have aD:i=L.length:=by omega
      have hfin:=Yc.out wr (by rw [aD,List.take_length,HAL.out] at hQ;exact hQ) ((hw1.trans (.below _ hbel)).trans hW)
      clear hQ hW aD
      go_wp2_with fail
      go_ret
      exact ⟨rfl,hfin⟩
end
end Go.Proofs.YtcfhanoekniaaaaGreatDoor
namespace Go.Proofs.YtcfhanoekniaaaaGreatDoor
open Go.RowKit Go.Maps Go.Sort Go.Shelf Go.Lib
section
variable {w w' V:World}{t g c:Nat}{P:Ps}{n m sig pid k code:Int}{p q:Pr}
theorem Dy (f:Int→Bool) (d:Int):∀(zs:List Int) (i:Nat),(∃j,∃hj:j<zs.length,idxByFrom (fun _ y=>f y) d zs i=((i+j:Nat):Int)∧zs.find? f=some zs[j])∨(idxByFrom (fun _ y=>f y) d zs i=-1∧zs.find? f=none)
 | [],i=>.inr ⟨rfl,rfl⟩
 |z :: zs,i=>by
  by_cases h:f z=true
  ·exact .inl ⟨0,by simp,by simp [idxByFrom,h],by simp [h]⟩
  ·rcases Dy f d zs (i+1) with ⟨j,hj,h1,h2⟩|⟨h1,h2⟩
   ·exact .inl ⟨j+1,by simp;omega,by simp [idxByFrom,h,h1];omega,by simp [h,h2]⟩
   ·exact .inr ⟨by simp [idxByFrom,h,h1],by simp [h,h2]⟩
def iU (P:Ps) (n:Int):Bool:=decide (gJ P n=2)
theorem NT (P:Ps) (pid:Int):(fH P pid).find? (iU P)=(ah P).find? (CB P pid):=by
 unfold fH
 rw [List.find?_filter]
 congr 1
 funext x
 unfold yA iU CB
 simp
theorem QX (P:Ps) (pid:Int):(ah P).any (yA P pid)=true↔(fH P pid).length≠0:=by
 unfold fH
 rw [List.any_eq_true,Ne,List.length_eq_zero_iff,List.filter_eq_nil_iff]
 constructor
 ·rintro ⟨x,hx,h⟩ z;exact z x hx h
 ·intro z
  apply Classical.byContradiction
  intro h
  exact z (fun x hx h2=>h ⟨x,hx,h2⟩)
theorem Kr (h:QM w t g P c) {x:Nat}(hx:w.cell? ⟨x,0,none⟩=some (wp t)) (n:Int) (hn:(Lit.int .i64 n).wf=true) :
 Calls Tryz.prog 214 #[.int .i64 n,.pointer (some ⟨x,0,none⟩)] w fun e w'=>e=.returned (.bool (iU P n))∧Below w.heap.size w w':=by
 have hS:=h.state n hn
 have hv:iU P n=(gJ P n == 2):=by unfold iU;by_cases e:gJ P n=2<;>simp [e]
 rw [hv]
 generalize gJ P n=r at *
 go_enter Tryz.func214,Tryz.ntmps214
 go_wp2_with (go_at_call 112;refine hS.mono ?_;rintro e w1 ⟨rfl,hb⟩)
 go_ret
 exact ⟨rfl,hb⟩
theorem JD.del (h:JD P) (n:Int):JD (sO P n):=⟨fun i p e=>h.Af i p (gB e).2,fun i p e=>h.dead i p (gB e).2⟩
theorem QJ.del (h:QJ w t g P c) (hV:Below w.heap.size w V) (hq:P n=some q) (hd:q.state=2):∃w',(∀ty,(Builtin.delete_ #[220,3] ty #[.map (some g),.int .i64 n]).run Tryz.prog V=.ok (.tuple #[]) w')∧GH w t g (sO P n) w':=by
 have hk:=h.key n q hq
 have hv:=h.below hV
 obtain ⟨w',hrun,m',g'⟩:=hv.map.del Tryz.underlying220 n (yz (by omega)) 0
 refine ⟨w',fun ty=>by rw [←hrun];rfl,(if (P n).isSome then c-1 else c),⟨⟨(g'.block t hv.TE (fun z=>h.gt (Option.some.inj z).symm)).trans hv.head,?_,fun i p e=>h.key i p (gB e).2⟩,h.ok.del (by rw [iK hq];exact hd),h.dj.del n⟩,(Wt.below _ hV).trans (.grown g' rfl)⟩
 ·have:(fun i=>if i=n then none else (P i).map qv)=fun i=>(sO P n i).map qv:=by
   funext i;unfold sO;split<;>rfl
  rw [this,Option.isSome_map] at m'
  exact m'
theorem QJ.wait (h:QJ w t g P c) (pid:Int) (hn:(Lit.int .i64 pid).wf=true):Calls Tryz.prog 113 #[wp t,.int .i64 pid] w fun e w'=>e=.returned (.tuple #[.int .i64 (bO P pid).1,.int .i64 (bO P pid).2.1,aH (bO P pid).2.2.1])∧GH w t g (bO P pid).2.2.2 w':=by
 have hA:Below w.heap.size w (w.alloc (.cells #[wp t] 102)):=(Below.refl _ w).alloc (Nat.le_refl _) _
 obtain ⟨wA,SF⟩:∃wA,w.alloc (.cells #[wp t] 102)=wA:=⟨_,rfl⟩
 rw [SF] at hA
 have hszA:wA.heap.size=w.heap.size+1:=by rw [←SF];show (w.heap.push _).size=_;rw [Array.size_push]
 have x1:wA.cell? ⟨w.heap.size,0,none⟩=some (wp t):=by
  rw [←SF,cell_of_row _ _ _ _ _ _ (show (w.heap.push _)[w.heap.size]? = some _ by rw [Array.getElem?_push,if_pos rfl])]
  rfl
 have hr:=(h.below hA).toQM.runs pid hn
 cases nT:ay P pid with
 |false=>
  rw [nT,if_neg (by simp),az (by omega)] at hr
  have hW:bO P pid=(0,0,7,P):=by unfold bO;rw [if_pos nT]
  simp only [hW]
  rw [az (show (7:Int)≠0 by omega)]
  clear hszA
  go_enter Tryz.func113,Tryz.ntmps113
  go_wp2_with (go_at_call 137;refine hr.mono ?_;rintro e w1 ⟨rfl,hb⟩)
  go_ret3
  exact ⟨rfl,.same h (hA.trans (hb.mono hA.size))⟩
 |true=>
  rw [nT,if_pos rfl,aC] at hr
  obtain ⟨q0,hq0,_⟩:=bY.1 nT
  have hps:(P pid).isSome=true:=by rw [hq0];rfl
  have hown:=fun W (hW:Below w.heap.size w W)=>(h.below hW).toQM.own hps pid
  have hlen:=Di P pid
  have YC:=NT P pid
  have EH:=QX P pid
  have hmem:=fun x (hx:x∈fH P pid)=>Dh (P:=P) (pid:=pid) hx
  have HA:Aside (Below w.heap.size w wA):=hA
  have PY:Aside (wA.heap.size=w.heap.size+1):=hszA
  have hix:∀W b cap,Below wA.heap.size wA W→b<W.heap.size→(∀j (hj:j<(fH P pid).length),W.cell? ⟨b,j,none⟩=some (.int .i64 (fH P pid)[j]))→Calls Tryz.prog 213 #[.slice (some ⟨b,0,none⟩) (fH P pid).length cap,.func (.func 214) #[] #[.pointer (some ⟨w.heap.size,0,none⟩)]] W fun e w'=>e=.returned (.int .i64 (idxBy (fun _ y=>iU P y) (fH P pid) default))∧Below W.heap.size W w':=fun W b cap hW hb hc=>by
   refine Iu (Ok:=fun V=>QM V t g P c∧V.cell? ⟨w.heap.size,0,none⟩=some (wp t)) (p:=iU P) (enters_of Tryz.func214 (by kernel_rfl) rfl) (fun V x hV hx=>?_) (fun V hV=>?_) (by omega) hb (fun j hj=>by rw [hc j hj,getElem!_pos _ j hj])
   ·obtain ⟨r,hr⟩:=Option.isSome_iff_exists.1 (hmem x hx)
    have:=h.key x r hr
    exact Kr hV.1 hV.2 x (yz (by omega))
   ·have hb2:Below wA.heap.size wA V:=hW.trans (hV.mono hW.size)
    exact ⟨(h.below hA).toQM.below hb2,by rw [hb2.cell (p:=⟨w.heap.size,0,none⟩) (by show w.heap.size < _;omega)];exact x1⟩
  have HIX:Aside _:=hix
  have HOW:Aside _:=hown
  have hW0:(fH P pid).find? (iU P)=none→bO P pid=(0,0,if (fH P pid).length=0 then 8 else 6,P):=fun z=>by
   unfold bO
   rw [if_neg (by rw [nT];simp),←YC,z]
   simp only
   by_cases e:(fH P pid).length=0
   ·rw [if_pos e,if_neg (fun z=>(EH.1 z) e)]
   ·rw [if_neg e,if_pos (EH.2 e)]
  have hW1:∀x,(fH P pid).find? (iU P)=some x→bO P pid=(x,GY P x,0,sO P x):=fun x z=>by
   unfold bO
   rw [if_neg (by rw [nT];simp),←YC,z]
  have HW0:Aside _:=hW0
  have HW1:Aside _:=hW1
  clear hown hix hW0 hW1 YC EH hszA hA
  generalize hLL:fH P pid=L at *
  clear hLL
  go_enter Tryz.func113,Tryz.ntmps113
  go_upto_region 4 with (go_at_call 137;refine hr.mono ?_;rintro e w1 ⟨rfl,hb⟩)
  have hA1:Below w.heap.size w w1:=HA.out.trans (hb.mono HA.out.size)
  have y1:w1.cell? ⟨w.heap.size,0,none⟩=some (wp t):=by rw [hb.cell (p:=⟨w.heap.size,0,none⟩) (by have:=PY.out;show w.heap.size < _;omega)];exact x1
  have hO:=HOW.out w1 hA1
  clear hr
  by_cases hl0:L.length=0
  ·have hLn:L=[]:=List.eq_nil_of_length_eq_zero hl0
   have hW:=HW0.out (by rw [hLn];rfl)
   rw [if_pos hl0] at hW
   have HW:Aside _:=hW
   have hO2:Calls Tryz.prog 212 #[wp t,.int .i64 pid] w1 fun e w'=>∃b cap,e=.returned (.slice (some ⟨b,0,none⟩) 0 cap)∧Below w1.heap.size w1 w':=hO.mono (by
    rintro e w' ⟨b,cap,z1,_,_,_,_,z2⟩
    rw [hl0] at z1
    exact ⟨b,cap,z1,z2⟩)
   clear hO
   clear hW hLn
   go_wp2_with (go_at_call 212;refine hO2.mono ?_;rintro e w2 ⟨b,cap,rfl,hbel⟩)
   go_ret3
   rw [HW.out]
   exact ⟨rfl,.same h (hA1.trans (hbel.mono hA1.size))⟩
  ·have hl1:((L.length:Int) == 0)=false:=by simpa using hl0
   have hl2:¬((L.length:Int)=0):=by omega
   go_upto_region 7 with (go_at_call 212;refine hO.mono ?_;rintro e w2 ⟨b,cap,rfl,hcap,hb1,hb2,hcc,hbel⟩)
   have bA2:Below wA.heap.size wA w2:=hb.trans (hbel.mono hb.size)
   have hIx:=HIX.out w2 b cap bA2 hb2 hcc
   have hz2:=hbel.size
   have y2:w2.cell? ⟨w.heap.size,0,none⟩=some (wp t):=by rw [bA2.cell (p:=⟨w.heap.size,0,none⟩) (by have:=PY.out;show w.heap.size < _;omega)];exact x1
   rcases Dy (iU P) default L 0 with ⟨j,hj,e1,e2⟩|⟨e1,e2⟩
   ·rw [show idxBy (fun _ y=>iU P y) L default=((0+j:Nat):Int) from e1,Nat.zero_add] at hIx
    have hW:=HW1.out _ e2
    obtain ⟨r,hr⟩:=Option.isSome_iff_exists.1 (hmem _ (List.getElem_mem hj))
    have hst:r.state=2:=by
     have:=List.find?_some e2
     unfold iU at this
     rw [iK hr] at this
     simpa using this
    have hcd:GY P L[j]=r.code:=by unfold GY;rw [hr];rfl
    rw [hcd] at hW
    have HW:Aside _:=hW
    have hk:=h.key _ r hr
    have hcj:=hcc j hj
    have hjn:¬((j:Int)<0):=by omega
    have hjl:(j:Int)<(L.length:Int):=by omega
    clear e1 e2 hW hcc hcd
    generalize L[j]=X at *
    have HF:Aside (∀W,Below w2.heap.size w2 W→W.cell? ⟨b,j,none⟩=some (.int .i64 X)∧W.cell? ⟨w.heap.size,0,none⟩=some (wp t)∧QJ W t g P c∧Below w.heap.size w W):=fun W hW=>by
     have b3:Below w.heap.size w w2:=hA1.trans (hbel.mono hA1.size)
     have b4:=b3.trans (hW.mono b3.size)
     refine ⟨by rw [hW.cell (p:=⟨b,j,none⟩) hb2];exact hcj,?_,h.below b4,b4⟩
     rw [hW.cell (p:=⟨w.heap.size,0,none⟩) (World.block_lt_of_cell? w2 _ y2)];exact y2
    go_upto_region 10 with (go_at_call 213;refine hIx.mono ?_;rintro e w3 ⟨rfl,hb3⟩)
    obtain ⟨z1,z2,z3,z4⟩:=HF.out w3 hb3
    have l3:=z3.toQM.vU hr (yz (by omega))
    have c3:=z3.toQM.c0
    have f3:=(P5 r.state r.parent r.code (iw r.wt:Nat) (iw (LY r):Nat) w3).2.2.1
    obtain ⟨w5,hrun,h5⟩:=h.del z4 hr hst
    rw [hst] at l3 f3
    clear hIx hO z3 hcj y1 y2 HF hst
    go_wp2_with (at_delete;refine lG rfl _ _ 220 3 rfl _ _ _ w5 rfl rfl hrun ?_)
    go_ret3
    rw [HW.out]
    exact ⟨rfl,h5⟩
   ·rw [show idxBy (fun _ y=>iU P y) L default=-1 from e1] at hIx
    have hW:=HW0.out e2
    rw [if_neg hl0] at hW
    have HW:Aside _:=hW
    clear e1 e2 hW hcc
    go_wp2_with (go_at_call 213;refine hIx.mono ?_;rintro e w3 ⟨rfl,hb3⟩)
    go_ret3
    have b3:Below w.heap.size w w2:=hA1.trans (hbel.mono hA1.size)
    rw [HW.out]
    exact ⟨rfl,.same h (b3.trans (hb3.mono b3.size))⟩
end
end Go.Proofs.YtcfhanoekniaaaaGreatDoor

/- Package proc: Exit, by its Go text. -/
import Derived.Test.YtippochapiolpaaGreatDoorJProg6
import Derived.Deep.DeepCutAuto
set_option maxHeartbeats 4000000
set_option maxRecDepth 100000
namespace Go.Proofs.YtippochapiolpaaGreatDoor
open Go.RowKit Go.Maps Go.Sort
def handed (P:Ps) (S:List Int):Ps:=fun n=>if n∈S then (P n).map (fun q=>{ q with parent:=1 }) else P n
def qo (P:Ps) (pid code:Int) (q:Pr):Ps:=nZ P pid { q with state:=2,code:=code,wt:=fI }
section
variable {w w' V:World}{t g c:Nat}{P:Ps}{n m sig pid k code:Int}{p q:Pr}
theorem Ky:handed P []=P:=by funext n;unfold handed;simp
theorem KA {L:List Int}{x:Int}(hx:x∉L) (hp:P x=some q):handed P L x=some q∧nZ (handed P L) x { q with parent:=1 }=handed P (L ++ [x]):=by
 refine ⟨by unfold handed;rw [if_neg hx];exact hp,?_⟩
 funext i
 unfold nZ handed
 by_cases e:i=x
 ·subst e;simp [hp]
 ·simp [e]
theorem Kz (ok:pX P) (hq:P pid=some q) (h1:pid≠1):handed (qo P pid code q) (gP (qo P pid code q) pid)=dI P pid code:=by
 have hpn:=(ok.par pid q hq h1).2
 have ho:∀i,i∈gP (qo P pid code q) pid↔i≠pid∧∃r,P i=some r∧r.parent=pid:=fun i=>by
  unfold gP
  rw [List.mem_filter]
  unfold Bi
  rw [decide_eq_true_iff]
  by_cases e:i=pid
  ·subst e
   have hd:qo P i code q i=some { q with state:=2,code:=code,wt:=fI }:=oN _ _ _
   rw [oP hd]
   constructor
   ·rintro ⟨_,z⟩;exact absurd z hpn
   ·rintro ⟨z,_⟩;exact absurd rfl z
  ·have hd:qo P pid code q i=P i:=qZ e
   constructor
   ·rintro ⟨z1,z2⟩
    unfold aH at z1
    have:=(List.mem_filter.1 z1).2
    rw [hd] at this
    obtain ⟨r,hr⟩:=Option.isSome_iff_exists.1 this
    have hd2:qo P pid code q i=some r:=hd.trans hr
    rw [oP hd2] at z2
    exact ⟨e,r,hr,z2⟩
   ·rintro ⟨_,r,hr,hp⟩
    have hd2:qo P pid code q i=some r:=hd.trans hr
    have hk:=ok.key i r hr
    refine ⟨?_,by rw [oP hd2];exact hp⟩
    unfold aH
    exact List.mem_filter.2 ⟨List.mem_map.2 ⟨(i-1).toNat,List.mem_range.2 (by omega),by omega⟩,by rw [hd2];rfl⟩
 funext i
 unfold handed dI
 by_cases e:i=pid
 ·subst e
  rw [if_neg (fun z=>((ho i).1 z).1 rfl),hq]
  show nZ _ _ _ _=_
  rw [oN]
  simp only [Option.map_some,lT,if_true,if_neg hpn]
 ·have hd:qo P pid code q i=P i:=qZ e
  rw [hd]
  cases hr:P i with
  |none=>split<;>rfl
  |some r=>
   by_cases hp:r.parent=pid
   ·rw [if_pos ((ho i).2 ⟨e,r,hr,hp⟩)]
    simp only [Option.map_some,lT,if_neg e,if_pos hp]
   ·rw [if_neg (fun z=>by
     obtain ⟨_,r',hr',hp'⟩:=(ho i).1 z
     rw [hr] at hr';cases hr'
     exact hp hp')]
    simp only [Option.map_some,lT,if_neg e,if_neg hp]
theorem JD.exit (h:JD P) (pid code:Int):JD (dI P pid code):=by
 have cs:∀i p,dI P pid code i=some p→∃q,P i=some q∧p=lT pid code i q:=fun i p e=>by
  unfold dI at e
  cases hq:P i with
  |none=>rw [hq] at e;cases e
  |some q=>rw [hq] at e;exact ⟨q,rfl,(Option.some.inj e).symm⟩
 refine ⟨fun i p e s z=>?_,fun i p e z=>?_⟩
 ·obtain ⟨q,hq,rfl⟩:=cs i p e
  rw [(oU q).1] at z
  rw [(oU q).2]
  split at z
  ·cases z
  ·exact h.Bh i q hq s z
 ·obtain ⟨q,hq,rfl⟩:=cs i p e
  rw [ve] at z
  rw [(oU q).1]
  split
  ·rfl
  ·rename_i hne
   rw [if_neg hne] at z
   exact h.dead i q hq z
theorem Gt {P:Ps}{x:Int}(hx:x∈gP P pid):(P x).isSome=true:=by
 unfold gP at hx
 have:=(List.mem_filter.1 hx).1
 unfold aH at this
 exact (List.mem_filter.1 this).2
theorem Kh (P:Ps) (pid:Int):(gP P pid).Nodup:=(xD P).filter _
theorem Gu (P:Ps) (pid:Int):(gP P pid).length≤24:=by
 have:=lH P
 have:(gP P pid).length≤(aH P).length:=by unfold gP;exact List.length_filter_le _ _
 omega
theorem QJ.exit (h:QJ w t g P c) (pid code:Int) (hn:(Lit.int .i64 pid).wf=true):Calls Tryz.prog 200 #[wp t,.int .i64 pid,.int .i64 code] w fun e w'=>e=.returned (aI (kV P pid))∧Fw w t g (if kV P pid=0 then dI P pid code else P) w':=by
 have hr:=h.toQM.runs pid hn
 cases nO:aD P pid with
 |false=>
  rw [nO,if_neg (by simp),ax (by omega)] at hr
  have hE:kV P pid=7:=by unfold kV;rw [if_pos nO]
  rw [hE,if_neg (by omega),ax (by omega)]
  go_enter Tryz.func200,Tryz.ntmps200
  go_wp2_with (go_at_call 227;refine hr.mono ?_;rintro e w1 ⟨rfl,hb⟩)
  go_ret
  exact ⟨rfl,.same h hb⟩
 |true=>
  rw [nO,if_pos rfl,aB] at hr
  by_cases h1:pid=1
  ·have hE:kV P pid=6:=by unfold kV;rw [if_neg (by rw [nO];simp),if_pos h1]
   rw [hE,if_neg (by omega),ax (by omega)]
   subst h1
   go_enter Tryz.func200,Tryz.ntmps200
   go_wp2_with (go_at_call 227;refine hr.mono ?_;rintro e w1 ⟨rfl,hb⟩)
   go_ret
   exact ⟨rfl,.same h hb⟩
  ·have hE:kV P pid=0:=by unfold kV;rw [if_neg (by rw [nO];simp),if_neg h1]
   rw [hE,if_pos rfl,aB]
   have hb1:(pid == 1)=false:=by simpa using h1
   obtain ⟨q,hq,hst⟩:=dA.1 nO
   have hk:=h.key pid q hq
   have hput:∀V,Below w.heap.size w V→∃w5,(Instr.mapUpdate 127 (.map (some g)) (.int .i64 pid) (.agg #[.int .i64 2,.int .i64 q.parent,.int .i64 code,.int .u64 0,.int .u64 0])).run Tryz.prog V=.ok () w5∧QM w5 t g (qo P pid code q) c∧Vl g w w5:=fun V hV=>by
    obtain ⟨w5,hrun,h5,s5⟩:=h.toQM.put hV pid hk { q with state:=2,code:=code,wt:=fI }
    rw [hq] at h5
    have e:qv { q with state:=2,code:=code,wt:=fI }=.agg #[.int .i64 2,.int .i64 q.parent,.int .i64 code,.int .u64 0,.int .u64 0]:=by
     unfold qv Ni;simp only [show ¬((2:Int)=1) by omega,if_false];unfold mv;rw [Jw];rfl
    rw [e] at hrun
    exact ⟨w5,hrun,h5,s5⟩
   have QO:Aside _:=hput
   have hco:=fun V (hV:Below w.heap.size w V)=>(h.toQM.below hV).c0
   have I5:Aside _:=hco
   have hpa:=fun V (hV:Below w.heap.size w V)=>(h.toQM.below hV).parent pid hn
   rw [oP hq] at hpa
   have HPA:Aside _:=hpa
   have hfin:∀W,QM W t g (dI P pid code) c→Vl g w W→Fw w t g (dI P pid code) W:=fun W a b=>⟨c,⟨a,h.ok.exit nO h1,h.dj.exit pid code⟩,b⟩
   have hall:=Kz (code:=code) h.ok hq h1
   have hds:(qo P pid code q pid).isSome=true:=by show (nZ _ _ _ _).isSome=true;rw [oN];rfl
   have HFI:Aside _:=hfin
   clear hput hco hpa hst hfin
   generalize qo P pid code q=P1 at *
   have HAL:Aside _:=hall
   clear hall
   go_enter Tryz.func200,Tryz.ntmps200
   go_upto_region 6 with (go_at_call 227;refine hr.mono ?_;rintro e w1 ⟨rfl,hb⟩)
   have c1:=I5.out w1 hb
   have p2:=HPA.out w1.drew (bP hb)
   go_cut [28] (fun _ W=>QM W t g P1 c∧Vl g w W)
   case first=>
    go_region_with (go_at_call 281;refine p2.mono ?_;rintro e w2 ⟨rfl,hb2⟩;have b2:Below w.heap.size w w2:=(bP hb).trans (hb2.mono hb.size);have c2:=I5.out w2 b2;obtain ⟨w5,hrun,h5⟩:=QO.out _ b2)
    all_goals
     go_wp2_with fail
     go_meet
     case rel=>exact h5
   case rest=>
    obtain ⟨hq1,hw1⟩:=hcut
    have hO:=hq1.own hds pid
    have hol:=Gu P1 pid
    have hon:=Kh P1 pid
    have hom:=fun x (hx:x∈gP P1 pid)=>Gt (P:=P1) (pid:=pid) hx
    clear c1 p2 hr
    generalize gP P1 pid=L at *
    go_wp2_with (go_at_call 269;refine hO.mono ?_;rintro e w2 ⟨b,cap,rfl,hcap,hb1',hb2,hcc,hbel⟩)
    go_loopg [9,33] L.length (fun mm _ s33 wr=>∃i:Nat,i+mm=L.length∧s33=.int .i64 (i:Int)∧QM wr t g (handed P1 (L.take i)) c∧Vl g w2 wr)
    case atStart=>exact ⟨0,by omega,rfl,by rw [List.take_zero,Ky];exact hq1.below hbel,.ofB (Below.refl _ _)⟩
    case round=>
     obtain ⟨i,hi,rfl,hQ,hW⟩:=hrel
     by_cases hlt:(i:Int)<(L.length:Int)
     ·have aG:i<L.length:=by omega
      have hgw:g<wc.heap.size:=hq1.map.lt
      have cb:wr.cell? ⟨b,i,none⟩=some (.int .i64 L[i]):=by
       rw [World.cell?_of_block (w:=w2) (a:=⟨b,i,none⟩) (hW.block b hb2 (by omega))];exact hcc i aG
      obtain ⟨r,hr⟩:=Option.isSome_iff_exists.1 (hom _ (List.getElem_mem aG))
      have hni:L[i]∉L.take i:=fun z=>by
       obtain ⟨j,hj,e⟩:=List.getElem_of_mem z
       rw [List.getElem_take] at e
       rw [List.length_take] at hj
       have:=(List.getElem_inj hon).1 e
       omega
      obtain ⟨a1,a2⟩:=KA (L:=L.take i) hni hr
      have hH:=hQ.hand a1 1
      rw [a2,←take_add aG] at hH
      have ahz:(i:Int)<(cap:Int):=by omega
      clear a2 hni hQ hr a1
      generalize L[i]=X at *
      go_wp2_with (go_at_call 282;refine hH.mono ?_;rintro e w3 ⟨rfl,hq3,hw3⟩)
      go_roundg (gk-1)
      case measure=>omega
      case rel=>exact ⟨i+1,by omega,by go_num,hq3,hW.trans hw3⟩
     ·have aG:i=L.length:=by omega
      have hfin:=HFI.out wr (by rw [aG,List.take_length,HAL.out] at hQ;exact hQ) ((hw1.trans (.below _ hbel)).trans hW)
      clear hQ hW aG
      go_wp2_with fail
      go_ret
      exact ⟨rfl,hfin⟩
end
end Go.Proofs.YtippochapiolpaaGreatDoor
namespace Go.Proofs.YtippochapiolpaaGreatDoor
open Go.RowKit Go.Maps Go.Sort Go.Shelf Go.Lib
section
variable {w w' V:World}{t g c:Nat}{P:Ps}{n m sig pid k code:Int}{p q:Pr}
theorem GN (f:Int→Bool) (d:Int):∀(zs:List Int) (i:Nat),(∃j,∃hj:j<zs.length,idxByFrom (fun _ y=>f y) d zs i=((i+j:Nat):Int)∧zs.find? f=some zs[j])∨(idxByFrom (fun _ y=>f y) d zs i=-1∧zs.find? f=none)
 | [],i=>.inr ⟨rfl,rfl⟩
 |z :: zs,i=>by
  by_cases h:f z=true
  ·exact .inl ⟨0,by simp,by simp [idxByFrom,h],by simp [h]⟩
  ·rcases GN f d zs (i+1) with ⟨j,hj,h1,h2⟩|⟨h1,h2⟩
   ·exact .inl ⟨j+1,by simp;omega,by simp [idxByFrom,h,h1];omega,by simp [h,h2]⟩
   ·exact .inr ⟨by simp [idxByFrom,h,h1],by simp [h,h2]⟩
def jN (P:Ps) (n:Int):Bool:=decide (nN P n=2)
theorem TE (P:Ps) (pid:Int):(gP P pid).find? (jN P)=(aH P).find? (BL P pid):=by
 unfold gP
 rw [List.find?_filter]
 congr 1
 funext x
 unfold Bi jN BL
 simp
theorem WQ (P:Ps) (pid:Int):(aH P).any (Bi P pid)=true↔(gP P pid).length≠0:=by
 unfold gP
 rw [List.any_eq_true,Ne,List.length_eq_zero_iff,List.filter_eq_nil_iff]
 constructor
 ·rintro ⟨x,hx,h⟩ z;exact z x hx h
 ·intro z
  apply Classical.byContradiction
  intro h
  exact z (fun x hx h2=>h ⟨x,hx,h2⟩)
theorem Px (h:QM w t g P c) {x:Nat}(hx:w.cell? ⟨x,0,none⟩=some (wp t)) (n:Int) (hn:(Lit.int .i64 n).wf=true) :
 Calls Tryz.prog 271 #[.int .i64 n,.pointer (some ⟨x,0,none⟩)] w fun e w'=>e=.returned (.bool (jN P n))∧Below w.heap.size w w':=by
 have hS:=h.state n hn
 have hv:jN P n=(nN P n == 2):=by unfold jN;by_cases e:nN P n=2<;>simp [e]
 rw [hv]
 generalize nN P n=r at *
 go_enter Tryz.func271,Tryz.ntmps271
 go_wp2_with (go_at_call 147;refine hS.mono ?_;rintro e w1 ⟨rfl,hb⟩)
 go_ret
 exact ⟨rfl,hb⟩
theorem JD.del (h:JD P) (n:Int):JD (uu P n):=⟨fun i p e=>h.Bh i p (iH e).2,fun i p e=>h.dead i p (iH e).2⟩
theorem QJ.del (h:QJ w t g P c) (hV:Below w.heap.size w V) (hq:P n=some q) (hd:q.state=2):∃w',(∀ty,(Builtin.delete_ #[127,3] ty #[.map (some g),.int .i64 n]).run Tryz.prog V=.ok (.tuple #[]) w')∧Fw w t g (uu P n) w':=by
 have hk:=h.key n q hq
 have hv:=h.below hV
 obtain ⟨w',hrun,m',g'⟩:=hv.map.del Tryz.underlying127 n (uq (by omega)) 0
 refine ⟨w',fun ty=>by rw [←hrun];rfl,(if (P n).isSome then c-1 else c),⟨⟨(g'.block t hv.Zr (fun z=>h.gt (Option.some.inj z).symm)).trans hv.head,?_,fun i p e=>h.key i p (iH e).2⟩,h.ok.del (by rw [kG hq];exact hd),h.dj.del n⟩,(Wt.below _ hV).trans (.grown g' rfl)⟩
 ·have:(fun i=>if i=n then none else (P i).map qv)=fun i=>(uu P n i).map qv:=by
   funext i;unfold uu;split<;>rfl
  rw [this,Option.isSome_map] at m'
  exact m'
theorem QJ.wait (h:QJ w t g P c) (pid:Int) (hn:(Lit.int .i64 pid).wf=true):Calls Tryz.prog 186 #[wp t,.int .i64 pid] w fun e w'=>e=.returned (.tuple #[.int .i64 (bC P pid).1,.int .i64 (bC P pid).2.1,aI (bC P pid).2.2.1])∧Fw w t g (bC P pid).2.2.2 w':=by
 have hA:Below w.heap.size w (w.alloc (.cells #[wp t] 62)):=(Below.refl _ w).alloc (Nat.le_refl _) _
 obtain ⟨wA,dx⟩:∃wA,w.alloc (.cells #[wp t] 62)=wA:=⟨_,rfl⟩
 rw [dx] at hA
 have hszA:wA.heap.size=w.heap.size+1:=by rw [←dx];show (w.heap.push _).size=_;rw [Array.size_push]
 have x1:wA.cell? ⟨w.heap.size,0,none⟩=some (wp t):=by
  rw [←dx,cell_of_row _ _ _ _ _ _ (show (w.heap.push _)[w.heap.size]? = some _ by rw [Array.getElem?_push,if_pos rfl])]
  rfl
 have hr:=(h.below hA).toQM.runs pid hn
 cases nO:aD P pid with
 |false=>
  rw [nO,if_neg (by simp),ax (by omega)] at hr
  have hW:bC P pid=(0,0,7,P):=by unfold bC;rw [if_pos nO]
  simp only [hW]
  rw [ax (show (7:Int)≠0 by omega)]
  go_enter Tryz.func186,Tryz.ntmps186
  go_wp2_with (go_at_call 227;refine hr.mono ?_;rintro e w1 ⟨rfl,hb⟩)
  go_ret3
  exact ⟨rfl,.same h (hA.trans (hb.mono hA.size))⟩
 |true=>
  rw [nO,if_pos rfl,aB] at hr
  obtain ⟨q0,hq0,_⟩:=dA.1 nO
  have hps:(P pid).isSome=true:=by rw [hq0];rfl
  have hown:=fun W (hW:Below w.heap.size w W)=>(h.below hW).toQM.own hps pid
  have hlen:=Gu P pid
  have Vw:=TE P pid
  have Li:=WQ P pid
  have hmem:=fun x (hx:x∈gP P pid)=>Gt (P:=P) (pid:=pid) hx
  have HA:Aside (Below w.heap.size w wA):=hA
  have VF:Aside (wA.heap.size=w.heap.size+1):=hszA
  have hix:∀W b cap,Below wA.heap.size wA W→b<W.heap.size→(∀j (hj:j<(gP P pid).length),W.cell? ⟨b,j,none⟩=some (.int .i64 (gP P pid)[j]))→Calls Tryz.prog 270 #[.slice (some ⟨b,0,none⟩) (gP P pid).length cap,.func (.func 271) #[] #[.pointer (some ⟨w.heap.size,0,none⟩)]] W fun e w'=>e=.returned (.int .i64 (idxBy (fun _ y=>jN P y) (gP P pid) default))∧Below W.heap.size W w':=fun W b cap hW hb hc=>by
   refine MM (Ok:=fun V=>QM V t g P c∧V.cell? ⟨w.heap.size,0,none⟩=some (wp t)) (p:=jN P) (enters_of Tryz.func271 (by kernel_rfl) rfl) (fun V x hV hx=>?_) (fun V hV=>?_) (by omega) hb (fun j hj=>by rw [hc j hj,getElem!_pos _ j hj])
   ·obtain ⟨r,hr⟩:=Option.isSome_iff_exists.1 (hmem x hx)
    have:=h.key x r hr
    exact Px hV.1 hV.2 x (uq (by omega))
   ·have hb2:Below wA.heap.size wA V:=hW.trans (hV.mono hW.size)
    exact ⟨(h.below hA).toQM.below hb2,by rw [hb2.cell (p:=⟨w.heap.size,0,none⟩) (by show w.heap.size < _;omega)];exact x1⟩
  have HIX:Aside _:=hix
  have HOW:Aside _:=hown
  have hW0:(gP P pid).find? (jN P)=none→bC P pid=(0,0,if (gP P pid).length=0 then 8 else 6,P):=fun z=>by
   unfold bC
   rw [if_neg (by rw [nO];simp),←Vw,z]
   simp only
   by_cases e:(gP P pid).length=0
   ·rw [if_pos e,if_neg (fun z=>(Li.1 z) e)]
   ·rw [if_neg e,if_pos (Li.2 e)]
  have hW1:∀x,(gP P pid).find? (jN P)=some x→bC P pid=(x,BM P x,0,uu P x):=fun x z=>by
   unfold bC
   rw [if_neg (by rw [nO];simp),←Vw,z]
  have HW0:Aside _:=hW0
  have HW1:Aside _:=hW1
  generalize hLL:gP P pid=L at *
  go_enter Tryz.func186,Tryz.ntmps186
  go_upto_region 4 with (go_at_call 227;refine hr.mono ?_;rintro e w1 ⟨rfl,hb⟩)
  have hA1:Below w.heap.size w w1:=HA.out.trans (hb.mono HA.out.size)
  have y1:w1.cell? ⟨w.heap.size,0,none⟩=some (wp t):=by rw [hb.cell (p:=⟨w.heap.size,0,none⟩) (by have:=VF.out;show w.heap.size < _;omega)];exact x1
  have hO:=HOW.out w1 hA1
  by_cases hl0:L.length=0
  ·have hLn:L=[]:=List.eq_nil_of_length_eq_zero hl0
   have hW:=HW0.out (by rw [hLn];rfl)
   rw [if_pos hl0] at hW
   have HW:Aside _:=hW
   have hO2:Calls Tryz.prog 269 #[wp t,.int .i64 pid] w1 fun e w'=>∃b cap,e=.returned (.slice (some ⟨b,0,none⟩) 0 cap)∧Below w1.heap.size w1 w':=hO.mono (by
    rintro e w' ⟨b,cap,z1,_,_,_,_,z2⟩
    rw [hl0] at z1
    exact ⟨b,cap,z1,z2⟩)
   go_wp2_with (go_at_call 269;refine hO2.mono ?_;rintro e w2 ⟨b,cap,rfl,hbel⟩)
   go_ret3
   rw [HW.out]
   exact ⟨rfl,.same h (hA1.trans (hbel.mono hA1.size))⟩
  ·have hl1:((L.length:Int) == 0)=false:=by simpa using hl0
   have hl2:¬((L.length:Int)=0):=by omega
   go_upto_region 7 with (go_at_call 269;refine hO.mono ?_;rintro e w2 ⟨b,cap,rfl,hcap,hb1,hb2,hcc,hbel⟩)
   have bA2:Below wA.heap.size wA w2:=hb.trans (hbel.mono hb.size)
   have hIx:=HIX.out w2 b cap bA2 hb2 hcc
   have hz2:=hbel.size
   have y2:w2.cell? ⟨w.heap.size,0,none⟩=some (wp t):=by rw [bA2.cell (p:=⟨w.heap.size,0,none⟩) (by have:=VF.out;show w.heap.size < _;omega)];exact x1
   rcases GN (jN P) default L 0 with ⟨j,hj,e1,e2⟩|⟨e1,e2⟩
   ·rw [show idxBy (fun _ y=>jN P y) L default=((0+j:Nat):Int) from e1,Nat.zero_add] at hIx
    have hW:=HW1.out _ e2
    obtain ⟨r,hr⟩:=Option.isSome_iff_exists.1 (hmem _ (List.getElem_mem hj))
    have hst:r.state=2:=by
     have:=List.find?_some e2
     unfold jN at this
     rw [kG hr] at this
     simpa using this
    have hcd:BM P L[j]=r.code:=by unfold BM;rw [hr];rfl
    rw [hcd] at hW
    have HW:Aside _:=hW
    have hk:=h.key _ r hr
    have hcj:=hcc j hj
    have hjn:¬((j:Int)<0):=by omega
    have hjl:(j:Int)<(L.length:Int):=by omega
    generalize L[j]=X at *
    have HF:Aside (∀W,Below w2.heap.size w2 W→W.cell? ⟨b,j,none⟩=some (.int .i64 X)∧W.cell? ⟨w.heap.size,0,none⟩=some (wp t)∧QJ W t g P c∧Below w.heap.size w W):=fun W hW=>by
     have b3:Below w.heap.size w w2:=hA1.trans (hbel.mono hA1.size)
     have b4:=b3.trans (hW.mono b3.size)
     refine ⟨by rw [hW.cell (p:=⟨b,j,none⟩) hb2];exact hcj,?_,h.below b4,b4⟩
     rw [hW.cell (p:=⟨w.heap.size,0,none⟩) (World.block_lt_of_cell? w2 _ y2)];exact y2
    go_upto_region 10 with (go_at_call 270;refine hIx.mono ?_;rintro e w3 ⟨rfl,hb3⟩)
    obtain ⟨z1,z2,z3,z4⟩:=HF.out w3 hb3
    have l3:=z3.toQM.xu hr (uq (by omega))
    have c3:=z3.toQM.c0
    have f3:=(VH r.state r.parent r.code (iV r.wt:Nat) (iV (Ni r):Nat) w3).2.2.1
    obtain ⟨w5,hrun,h5⟩:=h.del z4 hr hst
    rw [hst] at l3 f3
    go_wp2_with (at_delete;refine nM rfl _ _ 127 3 rfl _ _ _ w5 rfl rfl hrun ?_)
    go_ret3
    rw [HW.out]
    exact ⟨rfl,h5⟩
   ·rw [show idxBy (fun _ y=>jN P y) L default=-1 from e1] at hIx
    have hW:=HW0.out e2
    rw [if_neg hl0] at hW
    have HW:Aside _:=hW
    go_wp2_with (go_at_call 270;refine hIx.mono ?_;rintro e w3 ⟨rfl,hb3⟩)
    go_ret3
    have b3:Below w.heap.size w w2:=hA1.trans (hbel.mono hA1.size)
    rw [HW.out]
    exact ⟨rfl,.same h (b3.trans (hb3.mono b3.size))⟩
end
end Go.Proofs.YtippochapiolpaaGreatDoor

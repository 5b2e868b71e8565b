/- Package proc: Pids, own, by their Go text. -/
import Derived.Test.YtcfhanoekniaaaaGreatDoorJProg4
import Derived.Test.YtcfhanoekniaaaaGreatDoorJRow
import Derived.Lib.SlKeysI
set_option maxHeartbeats 4000000
set_option maxRecDepth 100000
namespace Go.Proofs.YtcfhanoekniaaaaGreatDoor
open Go.RowKit Go.Maps Go.Sort Go.Shelf Go.Lib
theorem JB (m:Nat):AnyZI.SortsIn Tryz.prog Tryz.sortedL_ren Fence.wide m:=
 ⟨fun blk off cap ss W hH hblk hsz=>callsIn_wide.2 (AnyM.slices_Sort_int Tryz.sortIL blk off cap ss W hH hblk hsz),
  fun p cap W=>callsIn_wide.2 (AnyM.slices_Sort_int_none Tryz.sortIL p cap W)⟩
section
variable {w w':World}{t g c:Nat}{P:Ps}{n pid:Int}
theorem QM.Mm (h:QM w t g P c):n∈ah P↔(P n).isSome=true:=by
 unfold ah
 rw [List.mem_filter]
 constructor
 ·exact fun z=>z.2
 ·intro z
  obtain ⟨p,hp⟩:=Option.isSome_iff_exists.1 z
  have:=h.key n p hp
  exact ⟨List.mem_map.2 ⟨(n-1).toNat,List.mem_range.2 (by omega),by omega⟩,z⟩
theorem QM.Xj (h:QM w t g P c):Calls Tryz.prog 111 #[wp t] w fun e w'=>∃v,e=.returned v∧w'.ownsRow w.heap.size 3 1 v (ah P).length ((ah P).map encZ)∧Below w.heap.size w w':=by
 obtain ⟨D,hown,hsz,hnd,hlen,hmem⟩:=h.map.data
 have h2:=h.c0
 have hbl:=h.map.lt
 have hc:=h.few
 have hpm:=fun x=>h.Mm (n:=x)
 refine (callsIn_wide (n:=6)).1 ?_
 have hseq:SeqGives Fence.wide 2 Tryz.prog 280 #[.pointer (some ⟨w.heap.size,0,none⟩)] encZ (fun ss=>ss.Perm (Go.intKeys D)) (Maps.size D) (w.alloc (.cells #[.map (some g)] 220)):=
  AnyZI.keys_gives (ρ:=Tryz.keysL_ren) { Tryz.keysL with } Fence.wide _ trivial rfl (by omega) w.heap.size g c D _ (by simp) (by simp) (by
   obtain ⟨es,clock,hb,Ft,hs,hD⟩:=hown
   exact ⟨es,clock,(Below.heap_alloc _ _ g hbl).trans hb,Ft,hs,hD⟩)
 have cK:∀mb W,CallsIn Fence.wide 5 Tryz.prog 211 #[.map mb] W fun e w'=>e=.returned (.func (.func 280) #[] #[.pointer (some ⟨W.heap.size,0,none⟩)])∧w'=W.alloc (.cells #[.map mb] 220):=fun mb W=>AnyZI.keys_in Tryz.keysL Fence.wide 5 trivial rfl mb W
 have cS:=AnyZI.sorted_in Tryz.sortedL Fence.wide 5 trivial trivial trivial trivial rfl (by omega) (JB _) (enters_of Tryz.func272 (by kernel_rfl) rfl) 280 #[.pointer (some ⟨w.heap.size,0,none⟩)] trivial (enters_of Tryz.func280 (by kernel_rfl) rfl) _ _ (by rw [hsz];unfold maxLen;omega) (by omega) _ hseq
 change CallsIn _ _ Tryz.prog 210 _ _ _ at cS
 have hfK:Fence.wide.fn 211:=trivial
 have hfS:Fence.wide.fn 210:=trivial
 have HPM:Aside (∀x,x∈ah P↔(P x).isSome=true):=hpm
 have HME:Aside _:=hmem
 clear hpm hmem hc
 refine callsIn_of_wp Tryz.func111 rfl trivial ?_ rfl
 simp only [Tryz.ntmps111,List.size_toArray,List.length_cons,List.length_nil,Nat.reduceAdd,Nat.reduceSub,Array.replicate_succ,Array.replicate_zero,List.push_toArray,List.append_toArray,List.nil_append,List.cons_append]
 gi_wp2_with (first
  |(gi_at_call 211;refine (cK _ _).mono ?_;rintro e w' ⟨rfl,rfl⟩)
  |(gi_at_call 210;refine cS.mono ?_;rintro e w' ⟨v,ss,rfl,hS,hrow,hnil,hb⟩))
 go_ret
 have hn:ss.Nodup:=hS.nodup_iff.2 hnd
 have hall:ss.mergeSort (fun x y=>decide (x≤y))=ah P:=Qz (Qu hn) (nK P) (fun x=>by
  rw [(List.mergeSort_perm ss _).mem_iff,hS.mem_iff,HME.out,HPM.out,Option.isSome_map])
 refine ⟨v,rfl,?_,((Below.refl _ w).alloc (Nat.le_refl _) _).trans (hb.mono (by simp))⟩
 rw [←hall,List.length_mergeSort];exact ownsRow_base_a hrow (by simp)
theorem QM.jg (h:QM w t g P c) (hne:(P n).isSome=true):Calls Tryz.prog 111 #[wp t] w fun e w'=>∃b cap,e=.returned (.slice (some ⟨b,0,none⟩) (ah P).length cap)∧(ah P).length≤cap∧w.heap.size≤b∧b<w'.heap.size∧Holds encZ w' b 0 (ah P).toArray∧Below w.heap.size w w':=by
 refine h.Xj.mono ?_
 rintro e w1 ⟨v,rfl,row,hb⟩
 have h1:0<(ah P).length:=List.length_pos_of_mem (h.Mm.2 hne)
 rcases row.2 with ⟨_,hz⟩|⟨g7,ZR,cur,rfl,hN,hg,r1,r2,r3,r4⟩
 ·omega
 ·exact ⟨g7,ZR,rfl,by omega,by omega,lt_of_block hg,holds_of_block_i hg (by simpa using r4),hb⟩
theorem J4 (h:QM w t g P c) {x y:Nat}(hx:w.cell? ⟨x,0,none⟩=some (wp t)) (hy:w.cell? ⟨y,0,none⟩=some (.int .i64 pid)) (n:Int) (hn:(Lit.int .i64 n).wf=true) :
 Calls Tryz.prog 282 #[.int .i64 n,.pointer (some ⟨x,0,none⟩),.pointer (some ⟨y,0,none⟩)] w fun e w'=>e=.returned (.bool (!yA P pid n))∧Below w.heap.size w w':=by
 have hP:=fun W (hW:Below w.heap.size w W)=>(h.below hW).parent n hn
 have hv:(!yA P pid n)=(uV P n != pid):=by unfold yA;by_cases e:uV P n=pid<;>simp [e]
 rw [hv]
 generalize uV P n=r at *
 have hyl:y<w.heap.size:=World.block_lt_of_cell? w _ hy
 have HY:Aside (∀W,Below w.heap.size w W→W.cell? ⟨y,0,none⟩=some (.int .i64 pid)):=fun W hW=>by rw [hW.cell (p:=⟨y,0,none⟩) hyl];exact hy
 go_enter Tryz.func282,Tryz.ntmps282
 go_upto_region 1 with fail
 go_region_with (go_at_call 248;refine (hP _ (by first|exact dm (Below.refl _ _) | exact Below.refl _ _)).mono ?_;rintro e w1 ⟨rfl,hb⟩;have hy1:=HY.out w1 ((dm (Below.refl _ w)).trans (hb.mono (by exact Nat.le_refl _))))
 all_goals
  go_wp2_with fail
  go_ret
  exact ⟨rfl,(dm (Below.refl _ w)).trans (hb.mono (by exact Nat.le_refl _))⟩
def fH (P:Ps) (pid:Int):List Int:=(ah P).filter (yA P pid)
theorem QM.own (h:QM w t g P c) (hne:(P n).isSome=true) (pid:Int):Calls Tryz.prog 212 #[wp t,.int .i64 pid] w fun e w'=>∃b cap,e=.returned (.slice (some ⟨b,0,none⟩) (fH P pid).length cap)∧(fH P pid).length≤cap∧w.heap.size≤b∧b<w'.heap.size∧(∀j (hj:j<(fH P pid).length),w'.cell? ⟨b,j,none⟩=some (.int .i64 (fH P pid)[j]))∧Below w.heap.size w w':=by
 have hlen:=mO P
 have hfl:(ah P).filter (fun x=>!(!yA P pid x))=fH P pid:=by unfold fH;congr 1;funext x;simp
 have hll:(fH P pid).length≤(ah P).length:=by unfold fH;exact List.length_filter_le _ _
 have hA1:Below w.heap.size w (w.alloc (.cells #[wp t] 102)):=(Below.refl _ w).alloc (Nat.le_refl _) _
 have hA:Below w.heap.size w ((w.alloc (.cells #[wp t] 102)).alloc (.cells #[.int .i64 pid] 3)):=hA1.alloc hA1.size _
 obtain ⟨wA,SF⟩:∃wA,(w.alloc (.cells #[wp t] 102)).alloc (.cells #[.int .i64 pid] 3)=wA:=⟨_,rfl⟩
 rw [SF] at hA
 have hszA:wA.heap.size=w.heap.size+2:=by rw [←SF];show ((w.heap.push _).push _).size=_;rw [Array.size_push,Array.size_push]
 have x1:wA.cell? ⟨w.heap.size,0,none⟩=some (wp t):=by
  rw [←SF,World.cell?_alloc_lt _ _ ⟨w.heap.size,0,none⟩ (by show w.heap.size<(w.heap.push _).size;rw [Array.size_push];omega)]
  rw [cell_of_row _ _ _ _ _ _ (show (w.heap.push _)[w.heap.size]? = some _ by rw [Array.getElem?_push,if_pos rfl])]
  rfl
 have x2:wA.cell? ⟨w.heap.size+1,0,none⟩=some (.int .i64 pid):=by
  rw [←SF]
  rw [cell_of_row _ _ _ _ _ _ (show ((w.heap.push _).push _)[w.heap.size+1]? = some _ by rw [Array.getElem?_push,if_pos (by rw [Array.size_push])])]
  rfl
 have hQ:=h.below hA
 have Pm:=hQ.jg hne
 have hD:∀b cap W,(ah P).length≤cap→wA.heap.size≤b→b<W.heap.size→Holds encZ W b 0 (ah P).toArray→Below wA.heap.size wA W→Calls Tryz.prog 281 #[.slice (some ⟨b,0,none⟩) (ah P).length cap,.func (.func 282) #[] #[.pointer (some ⟨w.heap.size,0,none⟩),.pointer (some ⟨w.heap.size+1,0,none⟩)]] W fun e w'=>e=.returned (.slice (some ⟨b,0,none⟩) (fH P pid).length cap)∧(∀j (hj:j<(fH P pid).length),w'.cell? ⟨b,j,none⟩=some (.int .i64 (fH P pid)[j]))∧Wt (fun i=>i=b) W w':=fun b cap W hcap hb1 hb2 hH hW=>by
  have:=RV (w:=W) (b:=b) (cap:=cap) (f:=282) (lb:=#[.pointer (some ⟨w.heap.size,0,none⟩),.pointer (some ⟨w.heap.size+1,0,none⟩)]) (p:=fun x=>!yA P pid x) (Ok:=fun V=>QM V t g P c∧V.cell? ⟨w.heap.size,0,none⟩=some (wp t)∧V.cell? ⟨w.heap.size+1,0,none⟩=some (.int .i64 pid)) (L:=ah P) (enters_of Tryz.func282 (by kernel_rfl) rfl) (fun V x hV hx=>by
   obtain ⟨q,hq⟩:=Option.isSome_iff_exists.1 (h.Mm.1 hx)
   have:=h.key x q hq
   exact J4 hV.1 hV.2.1 hV.2.2 x (yz (by omega))) (fun V hV=>by
   have hQW:=hQ.below hW
   have h1:=hQ.TE
   have h2:=hQ.map.lt
   have h3:=hW.size
   refine ⟨hQW.keep (hV.block t (by omega) (by omega)) (hV.block g (by omega) (by omega)),?_,?_⟩
   ·rw [World.cell?_of_block (w:=W) (a:=⟨w.heap.size,0,none⟩) (hV.block w.heap.size (by omega) (by omega)),hW.cell (p:=⟨w.heap.size,0,none⟩) (by show w.heap.size < _;omega)];exact x1
   ·rw [World.cell?_of_block (w:=W) (a:=⟨w.heap.size+1,0,none⟩) (hV.block (w.heap.size+1) (by omega) (by omega)),hW.cell (p:=⟨w.heap.size+1,0,none⟩) (by show w.heap.size+1 < _;omega)];exact x2) (by omega) hcap hb2 hH
  rw [hfl] at this
  exact this
 have HD:Aside _:=hD
 have PY:Aside (wA.heap.size=w.heap.size+2):=hszA
 have HA:Aside (Below w.heap.size w wA):=hA
 clear hD hszA hA hA1 hQ
 go_enter Tryz.func212,Tryz.ntmps212
 go_wp2_with (first
  |(go_at_call 111;refine Pm.mono ?_;rintro e w1 ⟨b,cap,rfl,hcap,hb1,hb2,hH,hbel⟩;have hDD:=HD.out b cap w1 hcap hb1 hb2 hH hbel;clear hH)
  |(go_at_call 281;refine hDD.mono ?_;rintro e w2 ⟨rfl,hcc,hwt⟩))
 go_ret
 have hs:=PY.out
 have ha:=HA.out
 have hs1:=hbel.size
 have hs2:=hwt.size
 exact ⟨b,cap,rfl,by omega,by omega,by omega,hcc,⟨hwt.os.trans (hbel.os.trans ha.os),hwt.tape.trans (hbel.tape.trans ha.tape),hwt.output.trans (hbel.output.trans ha.output),by omega,fun i hi=>((hwt.block i (by omega) (by omega)).trans (hbel.block i (by omega))).trans (ha.block i hi)⟩⟩
end
end Go.Proofs.YtcfhanoekniaaaaGreatDoor
namespace Go.Proofs.YtcfhanoekniaaaaGreatDoor
open Go.RowKit Go.Maps Go.Sort
section
variable {w w' V:World}{t g c:Nat}{P:Ps}{n m sig pid k:Int}{p q:Pr}
theorem QJ.UQ (h:QJ w t g P c) (hk:ru P k) (Cr:k≤24):Calls Tryz.prog 138 #[wp t] w fun e w'=>e=.returned (.int .i64 k)∧Below w.heap.size w w':=by
 have hkp:=hk.pos
 go_enter Tryz.func138,Tryz.ntmps138
 go_wp2_with fail
 go_loopg [3] 25 (fun mm s3 wr=>∃x:Nat,x+mm=26∧1≤x∧(x:Int)≤k∧s3=.int .i64 (x:Int)∧Below w.heap.size w wr)
 case atStart=>exact ⟨1,by omega,by omega,by omega,rfl,Below.refl _ _⟩
 case round=>
  obtain ⟨x,hx,hx1,hxk,rfl,hbel⟩:=hrel
  have hS:=(h.below hbel).toQM.state x (yz (by omega))
  by_cases hxe:(x:Int)=k
  ·rw [hxe,j4 hk.no] at hS
   rw [hxe] at *
   go_wp2_with (go_at_call 112;refine hS.mono ?_;rintro e w1 ⟨rfl,hb⟩)
   go_ret
   exact ⟨rfl,hbel.trans (hb.mono hbel.size)⟩
  ·have hsm:=hk.all x (by omega) (by omega)
   have hne:=h.ok.isSome.1 hsm
   have hs0:(gJ P x == 0)=false:=by simpa using hne
   generalize gJ P x=s at *
   go_wp2_with (go_at_call 112;refine hS.mono ?_;rintro e w1 ⟨rfl,hb⟩)
   go_roundg (gk-1)
   case measure=>omega
   case rel=>exact ⟨x+1,by omega,by omega,by omega,by go_num,hbel.trans (hb.mono hbel.size)⟩
theorem JD.fork (h:JD P) (pid k:Int):JD (fK P pid k):=h.set (fun s z=>by cases z) (fun z=>by cases z)
theorem QJ.fork (h:QJ w t g P c) (pid:Int) (hn:(Lit.int .i64 pid).wf=true):Calls Tryz.prog 55 #[wp t,.int .i64 pid] w fun e w'=>e=.returned (.tuple #[.int .i64 (lV P pid c),aH (jW P pid c)])∧GH w t g (lU P pid c) w':=by
 have hr:=h.toQM.runs pid hn
 have hco:=fun V (hV:Below w.heap.size w V)=>(h.toQM.below hV).c0
 have L9:Aside _:=hco
 clear hco
 cases nT:ay P pid with
 |false=>
  rw [nT,if_neg (by simp),az (by omega)] at hr
  have hE:jW P pid c=7:=by unfold jW;rw [if_pos nT]
  have hK:lV P pid c=0:=by unfold lV;rw [hE,if_neg (by omega)]
  have hQ:lU P pid c=P:=by unfold lU;rw [hE,if_neg (by omega)]
  rw [hE,hK,hQ,az (by omega)]
  go_enter Tryz.func55,Tryz.ntmps55
  go_wp2_with (go_at_call 137;refine hr.mono ?_;rintro e w1 ⟨rfl,hb⟩)
  go_ret2
  exact ⟨rfl,.same h hb⟩
 |true=>
  rw [nT,if_pos rfl,aC] at hr
  by_cases Cr:24≤c
  ·have hE:jW P pid c=12:=by unfold jW;rw [if_neg (by rw [nT];simp),if_pos Cr]
   have hK:lV P pid c=0:=by unfold lV;rw [hE,if_neg (by omega)]
   have hQ:lU P pid c=P:=by unfold lU;rw [hE,if_neg (by omega)]
   rw [hE,hK,hQ,az (by omega)]
   have ZN:(24:Int)≤(c:Int):=by omega
   go_enter Tryz.func55,Tryz.ntmps55
   go_upto_region 4 with (go_at_call 137;refine hr.mono ?_;rintro e w1 ⟨rfl,hb⟩)
   have c1:=L9.out w1 hb
   have hm:=(h.toQM.below hb).map
   go_wp2_with (at_len;refine fT rfl _ 220 rfl 219 Tryz.underlying220 g _ _ rfl hm ?_)
   go_ret2
   exact ⟨rfl,.same h hb⟩
  ·have hE:jW P pid c=0:=by unfold jW;rw [if_neg (by rw [nT];simp),if_neg Cr]
   obtain ⟨k,hk,hkl⟩:=ru.ex h.toQM.num (by omega)
   have hK:lV P pid c=k:=by unfold lV;rw [if_pos hE,pJ hk hkl]
   have hQ:lU P pid c=fK P pid k:=by unfold lU;rw [if_pos hE,pJ hk hkl]
   rw [hE,hK,hQ,aC]
   obtain ⟨q,hq,hst⟩:=bY.1 nT
   have ZN:(c:Int)<24:=by omega
   have hkp:=hk.pos
   have hig:SE P pid=q.ig:=by unfold SE;rw [hq];rfl
   have hput:∀V,Below w.heap.size w V→∃w5,(Instr.mapUpdate 220 (.map (some g)) (.int .i64 k) (.agg #[.int .i64 1,.int .i64 pid,.int .i64 0,.int .u64 0,.int .u64 ((iw q.ig:Nat):Int)])).run Tryz.prog V=.ok () w5∧GH w t g (fK P pid k) w5:=fun V hV=>by
    obtain ⟨w5,hrun,h5,s5⟩:=h.toQM.put hV k ⟨hkp,hkl⟩ ⟨pid,1,0,eB,SE P pid⟩
    have e:qv ⟨pid,1,0,eB,SE P pid⟩=.agg #[.int .i64 1,.int .i64 pid,.int .i64 0,.int .u64 0,.int .u64 ((iw q.ig:Nat):Int)]:=by
     unfold qv LY;simp only [hig,if_true];unfold mv;rw [Fa];rfl
    rw [e] at hrun
    exact ⟨w5,hrun,_,⟨h5,h.ok.fork nT hk hkl,h.dj.fork pid k⟩,s5⟩
   have TR:Aside _:=hput
   have hlo:=fun V (hV:Below w.heap.size w V)=>(h.toQM.below hV).vU hq hn
   rw [hst,Bn hst] at hlo
   have Y0:Aside _:=hlo
   have hle:=fun V (hV:Below w.heap.size w V)=>(h.below hV).UQ hk hkl
   have Y1:Aside _:=hle
   clear hput hlo hle hst hig
   go_enter Tryz.func55,Tryz.ntmps55
   go_upto_region 4 with (go_at_call 137;refine hr.mono ?_;rintro e w1 ⟨rfl,hb⟩)
   have c1:=L9.out w1 hb
   have hm:=(h.toQM.below hb).map
   have hl1:=Y1.out w1 hb
   go_upto_region 7 with (first
    |(at_len;refine fT rfl _ 220 rfl 219 Tryz.underlying220 g _ _ rfl hm ?_)
    |(go_at_call 138;refine hl1.mono ?_;rintro e w2 ⟨rfl,hb2⟩))
   have b2:Below w.heap.size w w2:=hb.trans (hb2.mono hb.size)
   have c2:=L9.out w2 b2
   have l2:=Y0.out _ (dm b2)
   have f2:=(P5 1 q.parent q.code (iw q.wt:Nat) (iw q.ig:Nat) w2.drew).2.2.2
   obtain ⟨w5,hrun,h5⟩:=TR.out _ (dm b2)
   clear hm hl1 hr c1
   go_region
   all_goals
    go_wp2_with fail
    go_ret2
    exact ⟨rfl,h5⟩
theorem QM.hand (h:QM w t g P c) (hq:P n=some q) (to:Int):Calls Tryz.prog 249 #[wp t,.int .i64 n,.int .i64 to] w fun e w'=>e=.returned (.tuple #[])∧QM w' t g (nQ P n { q with parent:=to }) c∧Pq g w w':=by
 have hk:=h.key n q hq
 have c0:=h.c0
 have l0:=h.vU hq (yz (by omega))
 have hput:∀V,Below w.heap.size w V→∃w5,(Instr.mapUpdate 220 (.map (some g)) (.int .i64 n) (.agg #[.int .i64 q.state,.int .i64 to,.int .i64 q.code,.int .u64 ((iw q.wt:Nat):Int),.int .u64 ((iw (LY q):Nat):Int)])).run Tryz.prog V=.ok () w5∧QM w5 t g (nQ P n { q with parent:=to }) c∧Pq g w w5:=fun V hV=>by
  obtain ⟨w5,hrun,h5,s5⟩:=h.put hV n hk { q with parent:=to }
  rw [hq] at h5
  exact ⟨w5,hrun,h5,s5⟩
 have hA:=(Below.refl _ w).alloc (Nat.le_refl _) (.cells #[.int .i64 q.state,.int .i64 to,.int .i64 q.code,.int .u64 ((iw q.wt:Nat):Int),.int .u64 ((iw (LY q):Nat):Int)] 219)
 obtain ⟨w5,hrun,h5⟩:=hput _ (dm hA)
 have c1:=(h.below hA).c0
 clear hput hA h hk
 go_enter Tryz.func249,Tryz.ntmps249
 go_upto_region 2 with fail
 go_region
 all_goals
  go_wp2_with fail
  go_end0
  exact ⟨rfl,h5⟩
end
end Go.Proofs.YtcfhanoekniaaaaGreatDoor

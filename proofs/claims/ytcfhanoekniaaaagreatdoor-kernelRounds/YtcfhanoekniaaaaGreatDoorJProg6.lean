/- Package proc: Pids, own, by their Go text. -/
import Derived.Test.YtcfhanoekniaaaaGreatDoorJProg4
import Derived.Test.YtcfhanoekniaaaaGreatDoorJRow
import Derived.Lib.SlKeysI
set_option maxHeartbeats 4000000
set_option maxRecDepth 100000
namespace Go.Proofs.YtcfhanoekniaaaaGreatDoor
open Go.RowKit Go.Maps Go.Sort Go.Shelf Go.Lib
theorem J2 (m:Nat):AnyZI.SortsIn Tryz.prog Tryz.sortedL_ren Fence.wide m:=
 ⟨fun blk off cap ss W hH hblk hsz=>callsIn_wide.2 (AnyM.slices_Sort_int Tryz.sortIL blk off cap ss W hH hblk hsz),
  fun p cap W=>callsIn_wide.2 (AnyM.slices_Sort_int_none Tryz.sortIL p cap W)⟩
section
variable {w w':World}{t g c:Nat}{P:Ps}{n pid:Int}
theorem QM.MS (h:QM w t g P c):n∈af P↔(P n).isSome=true:=by
 unfold af
 rw [List.mem_filter]
 constructor
 ·exact fun z=>z.2
 ·intro z
  obtain ⟨p,hp⟩:=Option.isSome_iff_exists.1 z
  have:=h.key n p hp
  exact ⟨List.mem_map.2 ⟨(n-1).toNat,List.mem_range.2 (by omega),by omega⟩,z⟩
theorem QM.XN (h:QM w t g P c):Calls Tryz.prog 111 #[wp t] w fun e w'=>∃v,e=.returned v∧w'.ownsRow w.heap.size 3 1 v (af P).length ((af P).map encZ)∧Below w.heap.size w w':=by
 obtain ⟨D,hown,hsz,hnd,hlen,hmem⟩:=h.map.data
 have h2:=h.c0
 have hbl:=h.map.lt
 have hc:=h.few
 have hpm:=fun x=>h.MS (n:=x)
 refine (callsIn_wide (n:=6)).1 ?_
 have hseq:SeqGives Fence.wide 2 Tryz.prog 280 #[.pointer (some ⟨w.heap.size,0,none⟩)] encZ (fun ss=>ss.Perm (Go.intKeys D)) (Maps.size D) (w.alloc (.cells #[.map (some g)] 220)):=
  AnyZI.keys_gives (ρ:=Tryz.keysL_ren) { Tryz.keysL with } Fence.wide _ trivial rfl (by omega) w.heap.size g c D _ (by simp) (by simp) (by
   obtain ⟨es,clock,hb,Ft,hs,hD⟩:=hown
   exact ⟨es,clock,(Below.heap_alloc _ _ g hbl).trans hb,Ft,hs,hD⟩)
 have cK:∀mb W,CallsIn Fence.wide 5 Tryz.prog 211 #[.map mb] W fun e w'=>e=.returned (.func (.func 280) #[] #[.pointer (some ⟨W.heap.size,0,none⟩)])∧w'=W.alloc (.cells #[.map mb] 220):=fun mb W=>AnyZI.keys_in Tryz.keysL Fence.wide 5 trivial rfl mb W
 have cS:=AnyZI.sorted_in Tryz.sortedL Fence.wide 5 trivial trivial trivial trivial rfl (by omega) (J2 _) (enters_of Tryz.func272 (by kernel_rfl) rfl) 280 #[.pointer (some ⟨w.heap.size,0,none⟩)] trivial (enters_of Tryz.func280 (by kernel_rfl) rfl) _ _ (by rw [hsz];unfold maxLen;omega) (by omega) _ hseq
 change CallsIn _ _ Tryz.prog 210 _ _ _ at cS
 have hfK:Fence.wide.fn 211:=trivial
 have hfS:Fence.wide.fn 210:=trivial
 have HPM:Aside (∀x,x∈af P↔(P x).isSome=true):=hpm
 have HME:Aside _:=hmem
 clear hpm hmem hc
 refine callsIn_of_wp Tryz.func111 rfl trivial ?_ rfl
 simp only [Tryz.ntmps111,List.size_toArray,List.length_cons,List.length_nil,Nat.reduceAdd,Nat.reduceSub,Array.replicate_succ,Array.replicate_zero,List.push_toArray,List.append_toArray,List.nil_append,List.cons_append]
 gi_wp2_with (first
  |(gi_at_call 211;refine (cK _ _).mono ?_;rintro e w' ⟨rfl,rfl⟩)
  |(gi_at_call 210;refine cS.mono ?_;rintro e w' ⟨v,ss,rfl,hS,hrow,hnil,hb⟩))
 go_ret
 have hn:ss.Nodup:=hS.nodup_iff.2 hnd
 have hall:ss.mergeSort (fun x y=>decide (x≤y))=af P:=Q7 (Q0 hn) (nU P) (fun x=>by
  rw [(List.mergeSort_perm ss _).mem_iff,hS.mem_iff,HME.out,HPM.out,Option.isSome_map])
 refine ⟨v,rfl,?_,((Below.refl _ w).alloc (Nat.le_refl _) _).trans (hb.mono (by simp))⟩
 rw [←hall,List.length_mergeSort];exact ownsRow_base_a hrow (by simp)
theorem QM.jr (h:QM w t g P c) (hne:(P n).isSome=true):Calls Tryz.prog 111 #[wp t] w fun e w'=>∃b cap,e=.returned (.slice (some ⟨b,0,none⟩) (af P).length cap)∧(af P).length≤cap∧w.heap.size≤b∧b<w'.heap.size∧Holds encZ w' b 0 (af P).toArray∧Below w.heap.size w w':=by
 refine h.XN.mono ?_
 rintro e w1 ⟨v,rfl,row,hb⟩
 have h1:0<(af P).length:=List.length_pos_of_mem (h.MS.2 hne)
 rcases row.2 with ⟨_,hz⟩|⟨g7,aaw,cur,rfl,hN,hg,r1,r2,r3,r4⟩
 ·omega
 ·exact ⟨g7,aaw,rfl,by omega,by omega,lt_of_block hg,holds_of_block_i hg (by simpa using r4),hb⟩
theorem Kv (h:QM w t g P c) {x y:Nat}(hx:w.cell? ⟨x,0,none⟩=some (wp t)) (hy:w.cell? ⟨y,0,none⟩=some (.int .i64 pid)) (n:Int) (hn:(Lit.int .i64 n).wf=true) :
 Calls Tryz.prog 282 #[.int .i64 n,.pointer (some ⟨x,0,none⟩),.pointer (some ⟨y,0,none⟩)] w fun e w'=>e=.returned (.bool (!yI P pid n))∧Below w.heap.size w w':=by
 have hP:=fun W (hW:Below w.heap.size w W)=>(h.below hW).parent n hn
 have hv:(!yI P pid n)=(sW P n != pid):=by unfold yI;by_cases e:sW P n=pid<;>simp [e]
 rw [hv]
 generalize sW P n=r at *
 have hyl:y<w.heap.size:=World.block_lt_of_cell? w _ hy
 have HY:Aside (∀W,Below w.heap.size w W→W.cell? ⟨y,0,none⟩=some (.int .i64 pid)):=fun W hW=>by rw [hW.cell (p:=⟨y,0,none⟩) hyl];exact hy
 go_enter Tryz.func282,Tryz.ntmps282
 go_upto_region 1 with fail
 go_region_with (go_at_call 248;refine (hP _ (by first|exact dA (Below.refl _ _) | exact Below.refl _ _)).mono ?_;rintro e w1 ⟨rfl,hb⟩;have hy1:=HY.out w1 ((dA (Below.refl _ w)).trans (hb.mono (by exact Nat.le_refl _))))
 all_goals
  go_wp2_with fail
  go_ret
  exact ⟨rfl,(dA (Below.refl _ w)).trans (hb.mono (by exact Nat.le_refl _))⟩
def fQ (P:Ps) (pid:Int):List Int:=(af P).filter (yI P pid)
theorem QM.own (h:QM w t g P c) (hne:(P n).isSome=true) (pid:Int):Calls Tryz.prog 212 #[wp t,.int .i64 pid] w fun e w'=>∃b cap,e=.returned (.slice (some ⟨b,0,none⟩) (fQ P pid).length cap)∧(fQ P pid).length≤cap∧w.heap.size≤b∧b<w'.heap.size∧(∀j (hj:j<(fQ P pid).length),w'.cell? ⟨b,j,none⟩=some (.int .i64 (fQ P pid)[j]))∧Below w.heap.size w w':=by
 have hlen:=mX P
 have hfl:(af P).filter (fun x=>!(!yI P pid x))=fQ P pid:=by unfold fQ;congr 1;funext x;simp
 have hll:(fQ P pid).length≤(af P).length:=by unfold fQ;exact List.length_filter_le _ _
 have hA1:Below w.heap.size w (w.alloc (.cells #[wp t] 102)):=(Below.refl _ w).alloc (Nat.le_refl _) _
 have hA:Below w.heap.size w ((w.alloc (.cells #[wp t] 102)).alloc (.cells #[.int .i64 pid] 3)):=hA1.alloc hA1.size _
 obtain ⟨wA,Tv⟩:∃wA,(w.alloc (.cells #[wp t] 102)).alloc (.cells #[.int .i64 pid] 3)=wA:=⟨_,rfl⟩
 rw [Tv] at hA
 have hszA:wA.heap.size=w.heap.size+2:=by rw [←Tv];show ((w.heap.push _).push _).size=_;rw [Array.size_push,Array.size_push]
 have x1:wA.cell? ⟨w.heap.size,0,none⟩=some (wp t):=by
  rw [←Tv,World.cell?_alloc_lt _ _ ⟨w.heap.size,0,none⟩ (by show w.heap.size<(w.heap.push _).size;rw [Array.size_push];omega)]
  rw [cell_of_row _ _ _ _ _ _ (show (w.heap.push _)[w.heap.size]? = some _ by rw [Array.getElem?_push,if_pos rfl])]
  rfl
 have x2:wA.cell? ⟨w.heap.size+1,0,none⟩=some (.int .i64 pid):=by
  rw [←Tv]
  rw [cell_of_row _ _ _ _ _ _ (show ((w.heap.push _).push _)[w.heap.size+1]? = some _ by rw [Array.getElem?_push,if_pos (by rw [Array.size_push])])]
  rfl
 have hQ:=h.below hA
 have PV:=hQ.jr hne
 have hD:∀b cap W,(af P).length≤cap→wA.heap.size≤b→b<W.heap.size→Holds encZ W b 0 (af P).toArray→Below wA.heap.size wA W→Calls Tryz.prog 281 #[.slice (some ⟨b,0,none⟩) (af P).length cap,.func (.func 282) #[] #[.pointer (some ⟨w.heap.size,0,none⟩),.pointer (some ⟨w.heap.size+1,0,none⟩)]] W fun e w'=>e=.returned (.slice (some ⟨b,0,none⟩) (fQ P pid).length cap)∧(∀j (hj:j<(fQ P pid).length),w'.cell? ⟨b,j,none⟩=some (.int .i64 (fQ P pid)[j]))∧Wt (fun i=>i=b) W w':=fun b cap W hcap hb1 hb2 hH hW=>by
  have:=SF (w:=W) (b:=b) (cap:=cap) (f:=282) (lb:=#[.pointer (some ⟨w.heap.size,0,none⟩),.pointer (some ⟨w.heap.size+1,0,none⟩)]) (p:=fun x=>!yI P pid x) (Ok:=fun V=>QM V t g P c∧V.cell? ⟨w.heap.size,0,none⟩=some (wp t)∧V.cell? ⟨w.heap.size+1,0,none⟩=some (.int .i64 pid)) (L:=af P) (enters_of Tryz.func282 (by kernel_rfl) rfl) (fun V x hV hx=>by
   obtain ⟨q,hq⟩:=Option.isSome_iff_exists.1 (h.MS.1 hx)
   have:=h.key x q hq
   exact Kv hV.1 hV.2.1 hV.2.2 x (yH (by omega))) (fun V hV=>by
   have hQW:=hQ.below hW
   have h1:=hQ.Uf
   have h2:=hQ.map.lt
   have h3:=hW.size
   refine ⟨hQW.keep (hV.block t (by omega) (by omega)) (hV.block g (by omega) (by omega)),?_,?_⟩
   ·rw [World.cell?_of_block (w:=W) (a:=⟨w.heap.size,0,none⟩) (hV.block w.heap.size (by omega) (by omega)),hW.cell (p:=⟨w.heap.size,0,none⟩) (by show w.heap.size < _;omega)];exact x1
   ·rw [World.cell?_of_block (w:=W) (a:=⟨w.heap.size+1,0,none⟩) (hV.block (w.heap.size+1) (by omega) (by omega)),hW.cell (p:=⟨w.heap.size+1,0,none⟩) (by show w.heap.size+1 < _;omega)];exact x2) (by omega) hcap hb2 hH
  rw [hfl] at this
  exact this
 have HD:Aside _:=hD
 have Qs:Aside (wA.heap.size=w.heap.size+2):=hszA
 have HA:Aside (Below w.heap.size w wA):=hA
 clear hD hszA hA hA1 hQ
 go_enter Tryz.func212,Tryz.ntmps212
 go_wp2_with (first
  |(go_at_call 111;refine PV.mono ?_;rintro e w1 ⟨b,cap,rfl,hcap,hb1,hb2,hH,hbel⟩;have hDD:=HD.out b cap w1 hcap hb1 hb2 hH hbel;clear hH)
  |(go_at_call 281;refine hDD.mono ?_;rintro e w2 ⟨rfl,hcc,hwt⟩))
 go_ret
 have hs:=Qs.out
 have ha:=HA.out
 have hs1:=hbel.size
 have hs2:=hwt.size
 exact ⟨b,cap,rfl,by omega,by omega,by omega,hcc,⟨hwt.os.trans (hbel.os.trans ha.os),hwt.tape.trans (hbel.tape.trans ha.tape),hwt.output.trans (hbel.output.trans ha.output),by omega,fun i hi=>((hwt.block i (by omega) (by omega)).trans (hbel.block i (by omega))).trans (ha.block i hi)⟩⟩
end
end Go.Proofs.YtcfhanoekniaaaaGreatDoor
namespace Go.Proofs.YtcfhanoekniaaaaGreatDoor
open Go.RowKit Go.Maps Go.Sort
section
variable {w w' V:World}{t g c:Nat}{P:Ps}{n m sig pid k:Int}{p q:Pr}
theorem QJ.VA (h:QJ w t g P c) (hk:mo P k) (uH:k≤24):Calls Tryz.prog 138 #[wp t] w fun e w'=>e=.returned (.int .i64 k)∧Below w.heap.size w w':=by
 have hkp:=hk.pos
 go_enter Tryz.func138,Tryz.ntmps138
 go_wp2_with fail
 go_loopg [3] 25 (fun mm s3 wr=>∃x:Nat,x+mm=26∧1≤x∧(x:Int)≤k∧s3=.int .i64 (x:Int)∧Below w.heap.size w wr)
 case atStart=>exact ⟨1,by omega,by omega,by omega,rfl,Below.refl _ _⟩
 case round=>
  obtain ⟨x,hx,hx1,hxk,rfl,hbel⟩:=hrel
  have hS:=(h.below hbel).toQM.state x (yH (by omega))
  by_cases hxe:(x:Int)=k
  ·rw [hxe,il hk.no] at hS
   rw [hxe] at *
   go_wp2_with (go_at_call 112;refine hS.mono ?_;rintro e w1 ⟨rfl,hb⟩)
   go_ret
   exact ⟨rfl,hbel.trans (hb.mono hbel.size)⟩
  ·have hsm:=hk.all x (by omega) (by omega)
   have hne:=h.ok.isSome.1 hsm
   have hs0:(gJ P x == 0)=false:=by simpa using hne
   generalize gJ P x=s at *
   go_wp2_with (go_at_call 112;refine hS.mono ?_;rintro e w1 ⟨rfl,hb⟩)
   go_roundg (gk-1)
   case measure=>omega
   case rel=>exact ⟨x+1,by omega,by omega,by omega,by go_num,hbel.trans (hb.mono hbel.size)⟩
theorem JD.fork (h:JD P) (pid k:Int):JD (dw P pid k):=h.set (fun s z=>by cases z) (fun z=>by cases z)
theorem QJ.fork (h:QJ w t g P c) (pid:Int) (hn:(Lit.int .i64 pid).wf=true):Calls Tryz.prog 55 #[wp t,.int .i64 pid] w fun e w'=>e=.returned (.tuple #[.int .i64 (l9 P pid c),aJ (kv P pid c)])∧Hf w t g (l8 P pid c) w':=by
 have hr:=h.toQM.runs pid hn
 have hco:=fun V (hV:Below w.heap.size w V)=>(h.toQM.below hV).c0
 have MB:Aside _:=hco
 clear hco
 cases nX:az P pid with
 |false=>
  rw [nX,if_neg (by simp),aB (by omega)] at hr
  have hE:kv P pid c=7:=by unfold kv;rw [if_pos nX]
  have hK:l9 P pid c=0:=by unfold l9;rw [hE,if_neg (by omega)]
  have hQ:l8 P pid c=P:=by unfold l8;rw [hE,if_neg (by omega)]
  rw [hE,hK,hQ,aB (by omega)]
  go_enter Tryz.func55,Tryz.ntmps55
  go_wp2_with (go_at_call 137;refine hr.mono ?_;rintro e w1 ⟨rfl,hb⟩)
  go_ret2
  exact ⟨rfl,.same h hb⟩
 |true=>
  rw [nX,if_pos rfl,aD] at hr
  by_cases uH:24≤c
  ·have hE:kv P pid c=12:=by unfold kv;rw [if_neg (by rw [nX];simp),if_pos uH]
   have hK:l9 P pid c=0:=by unfold l9;rw [hE,if_neg (by omega)]
   have hQ:l8 P pid c=P:=by unfold l8;rw [hE,if_neg (by omega)]
   rw [hE,hK,hQ,aB (by omega)]
   have aar:(24:Int)≤(c:Int):=by omega
   go_enter Tryz.func55,Tryz.ntmps55
   go_upto_region 4 with (go_at_call 137;refine hr.mono ?_;rintro e w1 ⟨rfl,hb⟩)
   have c1:=MB.out w1 hb
   have hm:=(h.toQM.below hb).map
   go_wp2_with (at_len;refine gD rfl _ 220 rfl 219 Tryz.underlying220 g _ _ rfl hm ?_)
   go_ret2
   exact ⟨rfl,.same h hb⟩
  ·have hE:kv P pid c=0:=by unfold kv;rw [if_neg (by rw [nX];simp),if_neg uH]
   obtain ⟨k,hk,hkl⟩:=mo.ex h.toQM.num (by omega)
   have hK:l9 P pid c=k:=by unfold l9;rw [if_pos hE,jd hk hkl]
   have hQ:l8 P pid c=dw P pid k:=by unfold l8;rw [if_pos hE,jd hk hkl]
   rw [hE,hK,hQ,aD]
   obtain ⟨q,hq,hst⟩:=bq.1 nX
   have aar:(c:Int)<24:=by omega
   have hkp:=hk.pos
   have hig:Jm P pid=q.ig:=by unfold Jm;rw [hq];rfl
   have hput:∀V,Below w.heap.size w V→∃w5,(Instr.mapUpdate 220 (.map (some g)) (.int .i64 k) (.agg #[.int .i64 1,.int .i64 pid,.int .i64 0,.int .u64 0,.int .u64 ((iI q.ig:Nat):Int)])).run Tryz.prog V=.ok () w5∧Hf w t g (dw P pid k) w5:=fun V hV=>by
    obtain ⟨w5,hrun,h5,s5⟩:=h.toQM.put hV k ⟨hkp,hkl⟩ ⟨pid,1,0,dI,Jm P pid⟩
    have e:qv ⟨pid,1,0,dI,Jm P pid⟩=.agg #[.int .i64 1,.int .i64 pid,.int .i64 0,.int .u64 0,.int .u64 ((iI q.ig:Nat):Int)]:=by
     unfold qv Mr;simp only [hig,if_true];unfold mv;rw [FD];rfl
    rw [e] at hrun
    exact ⟨w5,hrun,_,⟨h5,h.ok.fork nX hk hkl,h.dj.fork pid k⟩,s5⟩
   have Uv:Aside _:=hput
   have hlo:=fun V (hV:Below w.heap.size w V)=>(h.toQM.below hV).wz hq hn
   rw [hst,BI hst] at hlo
   have ZC:Aside _:=hlo
   have hle:=fun V (hV:Below w.heap.size w V)=>(h.below hV).VA hk hkl
   have ZF:Aside _:=hle
   clear hput hlo hle hst hig
   go_enter Tryz.func55,Tryz.ntmps55
   go_upto_region 4 with (go_at_call 137;refine hr.mono ?_;rintro e w1 ⟨rfl,hb⟩)
   have c1:=MB.out w1 hb
   have hm:=(h.toQM.below hb).map
   have hl1:=ZF.out w1 hb
   go_upto_region 7 with (first
    |(at_len;refine gD rfl _ 220 rfl 219 Tryz.underlying220 g _ _ rfl hm ?_)
    |(go_at_call 138;refine hl1.mono ?_;rintro e w2 ⟨rfl,hb2⟩))
   have b2:Below w.heap.size w w2:=hb.trans (hb2.mono hb.size)
   have c2:=MB.out w2 b2
   have l2:=ZC.out _ (dA b2)
   have f2:=(Qu 1 q.parent q.code (iI q.wt:Nat) (iI q.ig:Nat) w2.drew).2.2.2
   obtain ⟨w5,hrun,h5⟩:=Uv.out _ (dA b2)
   clear hm hl1 hr c1
   go_region
   all_goals
    go_wp2_with fail
    go_ret2
    exact ⟨rfl,h5⟩
theorem QM.hand (h:QM w t g P c) (hq:P n=some q) (to:Int):Calls Tryz.prog 249 #[wp t,.int .i64 n,.int .i64 to] w fun e w'=>e=.returned (.tuple #[])∧QM w' t g (j5 P n { q with parent:=to }) c∧PY g w w':=by
 have hk:=h.key n q hq
 have c0:=h.c0
 have l0:=h.wz hq (yH (by omega))
 have hput:∀V,Below w.heap.size w V→∃w5,(Instr.mapUpdate 220 (.map (some g)) (.int .i64 n) (.agg #[.int .i64 q.state,.int .i64 to,.int .i64 q.code,.int .u64 ((iI q.wt:Nat):Int),.int .u64 ((iI (Mr q):Nat):Int)])).run Tryz.prog V=.ok () w5∧QM w5 t g (j5 P n { q with parent:=to }) c∧PY g w w5:=fun V hV=>by
  obtain ⟨w5,hrun,h5,s5⟩:=h.put hV n hk { q with parent:=to }
  rw [hq] at h5
  exact ⟨w5,hrun,h5,s5⟩
 have hA:=(Below.refl _ w).alloc (Nat.le_refl _) (.cells #[.int .i64 q.state,.int .i64 to,.int .i64 q.code,.int .u64 ((iI q.wt:Nat):Int),.int .u64 ((iI (Mr q):Nat):Int)] 219)
 obtain ⟨w5,hrun,h5⟩:=hput _ (dA hA)
 have c1:=(h.below hA).c0
 clear hput hA h hk
 go_enter Tryz.func249,Tryz.ntmps249
 go_upto_region 2 with fail
 go_region
 all_goals
  go_wp2_with fail
  go_end0
  exact ⟨rfl,h5⟩
end
end Go.Proofs.YtcfhanoekniaaaaGreatDoor

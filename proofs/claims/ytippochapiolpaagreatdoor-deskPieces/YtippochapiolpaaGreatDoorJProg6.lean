/- Package proc: Pids, own, by their Go text. -/
import Derived.Test.YtippochapiolpaaGreatDoorJProg4
import Derived.Test.YtippochapiolpaaGreatDoorJRow
import Derived.Lib.SlKeysI
set_option maxHeartbeats 4000000
set_option maxRecDepth 100000
namespace Go.Proofs.YtippochapiolpaaGreatDoor
open Go.RowKit Go.Maps Go.Sort Go.Shelf Go.Lib
theorem Od (m:Nat):AnyZI.SortsIn Tryz.prog Tryz.sortedL_ren Fence.wide m:=
 ⟨fun blk off cap ss W hH hblk hsz=>callsIn_wide.2 (AnyM.slices_Sort_int Tryz.sortIL blk off cap ss W hH hblk hsz),
  fun p cap W=>callsIn_wide.2 (AnyM.slices_Sort_int_none Tryz.sortIL p cap W)⟩
section
variable {w w':World}{t g c:Nat}{P:Ps}{n pid:Int}
theorem QM.Rc (h:QM w t g P c):n∈aH P↔(P n).isSome=true:=by
 unfold aH
 rw [List.mem_filter]
 constructor
 ·exact fun z=>z.2
 ·intro z
  obtain ⟨p,hp⟩:=Option.isSome_iff_exists.1 z
  have:=h.key n p hp
  exact ⟨List.mem_map.2 ⟨(n-1).toNat,List.mem_range.2 (by omega),by omega⟩,z⟩
theorem QM.adf (h:QM w t g P c):Calls Tryz.prog 146 #[wp t] w fun e w'=>∃v,e=.returned v∧w'.ownsRow w.heap.size 3 1 v (aH P).length ((aH P).map encZ)∧Below w.heap.size w w':=by
 obtain ⟨D,hown,hsz,hnd,hlen,hmem⟩:=h.map.data
 have h2:=h.c0
 have hbl:=h.map.lt
 have hc:=h.few
 have hpm:=fun x=>h.Rc (n:=x)
 refine (callsIn_wide (n:=6)).1 ?_
 have hseq:SeqGives Fence.wide 2 Tryz.prog 290 #[.pointer (some ⟨w.heap.size,0,none⟩)] encZ (fun ss=>ss.Perm (Go.intKeys D)) (Maps.size D) (w.alloc (.cells #[.map (some g)] 127)):=
  AnyZI.keys_gives (ρ:=Tryz.keysL_ren) { Tryz.keysL with } Fence.wide _ trivial rfl (by omega) w.heap.size g c D _ (by simp) (by simp) (by
   obtain ⟨es,clock,hb,Ft,hs,hD⟩:=hown
   exact ⟨es,clock,(Below.heap_alloc _ _ g hbl).trans hb,Ft,hs,hD⟩)
 have cK:∀mb W,CallsIn Fence.wide 5 Tryz.prog 218 #[.map mb] W fun e w'=>e=.returned (.func (.func 290) #[] #[.pointer (some ⟨W.heap.size,0,none⟩)])∧w'=W.alloc (.cells #[.map mb] 127):=fun mb W=>AnyZI.keys_in Tryz.keysL Fence.wide 5 trivial rfl mb W
 have cS:=AnyZI.sorted_in Tryz.sortedL Fence.wide 5 trivial trivial trivial trivial rfl (by omega) (Od _) (enters_of Tryz.func289 (by kernel_rfl) rfl) 290 #[.pointer (some ⟨w.heap.size,0,none⟩)] trivial (enters_of Tryz.func290 (by kernel_rfl) rfl) _ _ (by rw [hsz];unfold maxLen;omega) (by omega) _ hseq
 change CallsIn _ _ Tryz.prog 217 _ _ _ at cS
 have hfK:Fence.wide.fn 218:=trivial
 have hfS:Fence.wide.fn 217:=trivial
 have HPM:Aside (∀x,x∈aH P↔(P x).isSome=true):=hpm
 have HME:Aside _:=hmem
 clear hpm hmem hc
 refine callsIn_of_wp Tryz.func146 rfl trivial ?_ rfl
 simp only [Tryz.ntmps146,List.size_toArray,List.length_cons,List.length_nil,Nat.reduceAdd,Nat.reduceSub,Array.replicate_succ,Array.replicate_zero,List.push_toArray,List.append_toArray,List.nil_append,List.cons_append]
 gi_wp2_with (first
  |(gi_at_call 218;refine (cK _ _).mono ?_;rintro e w' ⟨rfl,rfl⟩)
  |(gi_at_call 217;refine cS.mono ?_;rintro e w' ⟨v,ss,rfl,hS,hrow,hnil,hb⟩))
 go_ret
 have hn:ss.Nodup:=hS.nodup_iff.2 hnd
 have hall:ss.mergeSort (fun x y=>decide (x≤y))=aH P:=Wz (Wl hn) (vD P) (fun x=>by
  rw [(List.mergeSort_perm ss _).mem_iff,hS.mem_iff,HME.out,HPM.out,Option.isSome_map])
 refine ⟨v,rfl,?_,((Below.refl _ w).alloc (Nat.le_refl _) _).trans (hb.mono (by simp))⟩
 rw [←hall,List.length_mergeSort];exact ownsRow_base_a hrow (by simp)
theorem QM.si (h:QM w t g P c) (hne:(P n).isSome=true):Calls Tryz.prog 146 #[wp t] w fun e w'=>∃b cap,e=.returned (.slice (some ⟨b,0,none⟩) (aH P).length cap)∧(aH P).length≤cap∧w.heap.size≤b∧b<w'.heap.size∧Holds encZ w' b 0 (aH P).toArray∧Below w.heap.size w w':=by
 refine h.adf.mono ?_
 rintro e w1 ⟨v,rfl,row,hb⟩
 have h1:0<(aH P).length:=List.length_pos_of_mem (h.Rc.2 hne)
 rcases row.2 with ⟨_,hz⟩|⟨g7,afX,cur,rfl,hN,hg,r1,r2,r3,r4⟩
 ·omega
 ·exact ⟨g7,afX,rfl,by omega,by omega,lt_of_block hg,holds_of_block_i hg (by simpa using r4),hb⟩
theorem OX (h:QM w t g P c) {x y:Nat}(hx:w.cell? ⟨x,0,none⟩=some (wp t)) (hy:w.cell? ⟨y,0,none⟩=some (.int .i64 pid)) (n:Int) (hn:(Lit.int .i64 n).wf=true) :
 Calls Tryz.prog 318 #[.int .i64 n,.pointer (some ⟨x,0,none⟩),.pointer (some ⟨y,0,none⟩)] w fun e w'=>e=.returned (.bool (!Bi P pid n))∧Below w.heap.size w w':=by
 have hP:=fun W (hW:Below w.heap.size w W)=>(h.below hW).parent n hn
 have hv:(!Bi P pid n)=(xR P n != pid):=by unfold Bi;by_cases e:xR P n=pid<;>simp [e]
 rw [hv]
 generalize xR P n=r at *
 have hyl:y<w.heap.size:=World.block_lt_of_cell? w _ hy
 have HY:Aside (∀W,Below w.heap.size w W→W.cell? ⟨y,0,none⟩=some (.int .i64 pid)):=fun W hW=>by rw [hW.cell (p:=⟨y,0,none⟩) hyl];exact hy
 go_enter Tryz.func318,Tryz.ntmps318
 go_upto_region 1 with fail
 go_region_with (go_at_call 281;refine (hP _ (by first|exact bP (Below.refl _ _) | exact Below.refl _ _)).mono ?_;rintro e w1 ⟨rfl,hb⟩;have hy1:=HY.out w1 ((bP (Below.refl _ w)).trans (hb.mono (by exact Nat.le_refl _))))
 all_goals
  go_wp2_with fail
  go_ret
  exact ⟨rfl,(bP (Below.refl _ w)).trans (hb.mono (by exact Nat.le_refl _))⟩
def gP (P:Ps) (pid:Int):List Int:=(aH P).filter (Bi P pid)
theorem QM.own (h:QM w t g P c) (hne:(P n).isSome=true) (pid:Int):Calls Tryz.prog 269 #[wp t,.int .i64 pid] w fun e w'=>∃b cap,e=.returned (.slice (some ⟨b,0,none⟩) (gP P pid).length cap)∧(gP P pid).length≤cap∧w.heap.size≤b∧b<w'.heap.size∧(∀j (hj:j<(gP P pid).length),w'.cell? ⟨b,j,none⟩=some (.int .i64 (gP P pid)[j]))∧Below w.heap.size w w':=by
 have hlen:=lH P
 have hfl:(aH P).filter (fun x=>!(!Bi P pid x))=gP P pid:=by unfold gP;congr 1;funext x;simp
 have hll:(gP P pid).length≤(aH P).length:=by unfold gP;exact List.length_filter_le _ _
 have hA1:Below w.heap.size w (w.alloc (.cells #[wp t] 62)):=(Below.refl _ w).alloc (Nat.le_refl _) _
 have hA:Below w.heap.size w ((w.alloc (.cells #[wp t] 62)).alloc (.cells #[.int .i64 pid] 3)):=hA1.alloc hA1.size _
 obtain ⟨wA,dx⟩:∃wA,(w.alloc (.cells #[wp t] 62)).alloc (.cells #[.int .i64 pid] 3)=wA:=⟨_,rfl⟩
 rw [dx] at hA
 have hszA:wA.heap.size=w.heap.size+2:=by rw [←dx];show ((w.heap.push _).push _).size=_;rw [Array.size_push,Array.size_push]
 have x1:wA.cell? ⟨w.heap.size,0,none⟩=some (wp t):=by
  rw [←dx,World.cell?_alloc_lt _ _ ⟨w.heap.size,0,none⟩ (by show w.heap.size<(w.heap.push _).size;rw [Array.size_push];omega)]
  rw [cell_of_row _ _ _ _ _ _ (show (w.heap.push _)[w.heap.size]? = some _ by rw [Array.getElem?_push,if_pos rfl])]
  rfl
 have x2:wA.cell? ⟨w.heap.size+1,0,none⟩=some (.int .i64 pid):=by
  rw [←dx]
  rw [cell_of_row _ _ _ _ _ _ (show ((w.heap.push _).push _)[w.heap.size+1]? = some _ by rw [Array.getElem?_push,if_pos (by rw [Array.size_push])])]
  rfl
 have hQ:=h.below hA
 have hPi:=hQ.si hne
 have hD:∀b cap W,(aH P).length≤cap→wA.heap.size≤b→b<W.heap.size→Holds encZ W b 0 (aH P).toArray→Below wA.heap.size wA W→Calls Tryz.prog 207 #[.slice (some ⟨b,0,none⟩) (aH P).length cap,.func (.func 318) #[] #[.pointer (some ⟨w.heap.size,0,none⟩),.pointer (some ⟨w.heap.size+1,0,none⟩)]] W fun e w'=>e=.returned (.slice (some ⟨b,0,none⟩) (gP P pid).length cap)∧(∀j (hj:j<(gP P pid).length),w'.cell? ⟨b,j,none⟩=some (.int .i64 (gP P pid)[j]))∧Wt (fun i=>i=b) W w':=fun b cap W hcap hb1 hb2 hH hW=>by
  have:=Yf (w:=W) (b:=b) (cap:=cap) (f:=318) (lb:=#[.pointer (some ⟨w.heap.size,0,none⟩),.pointer (some ⟨w.heap.size+1,0,none⟩)]) (p:=fun x=>!Bi P pid x) (Ok:=fun V=>QM V t g P c∧V.cell? ⟨w.heap.size,0,none⟩=some (wp t)∧V.cell? ⟨w.heap.size+1,0,none⟩=some (.int .i64 pid)) (L:=aH P) (enters_of Tryz.func318 (by kernel_rfl) rfl) (fun V x hV hx=>by
   obtain ⟨q,hq⟩:=Option.isSome_iff_exists.1 (h.Rc.1 hx)
   have:=h.key x q hq
   exact OX hV.1 hV.2.1 hV.2.2 x (uq (by omega))) (fun V hV=>by
   have hQW:=hQ.below hW
   have h1:=hQ.Zr
   have h2:=hQ.map.lt
   have h3:=hW.size
   refine ⟨hQW.keep (hV.block t (by omega) (by omega)) (hV.block g (by omega) (by omega)),?_,?_⟩
   ·rw [World.cell?_of_block (w:=W) (a:=⟨w.heap.size,0,none⟩) (hV.block w.heap.size (by omega) (by omega)),hW.cell (p:=⟨w.heap.size,0,none⟩) (by show w.heap.size < _;omega)];exact x1
   ·rw [World.cell?_of_block (w:=W) (a:=⟨w.heap.size+1,0,none⟩) (hV.block (w.heap.size+1) (by omega) (by omega)),hW.cell (p:=⟨w.heap.size+1,0,none⟩) (by show w.heap.size+1 < _;omega)];exact x2) (by omega) hcap hb2 hH
  rw [hfl] at this
  exact this
 have HD:Aside _:=hD
 have VF:Aside (wA.heap.size=w.heap.size+2):=hszA
 have HA:Aside (Below w.heap.size w wA):=hA
 clear hD hszA hA hA1 hQ
 go_enter Tryz.func269,Tryz.ntmps269
 go_wp2_with (first
  |(go_at_call 146;refine hPi.mono ?_;rintro e w1 ⟨b,cap,rfl,hcap,hb1,hb2,hH,hbel⟩;have hDD:=HD.out b cap w1 hcap hb1 hb2 hH hbel;clear hH)
  |(go_at_call 207;refine hDD.mono ?_;rintro e w2 ⟨rfl,hcc,hwt⟩))
 go_ret
 have hs:=VF.out
 have ha:=HA.out
 have hs1:=hbel.size
 have hs2:=hwt.size
 exact ⟨b,cap,rfl,by omega,by omega,by omega,hcc,⟨hwt.os.trans (hbel.os.trans ha.os),hwt.tape.trans (hbel.tape.trans ha.tape),hwt.output.trans (hbel.output.trans ha.output),by omega,fun i hi=>((hwt.block i (by omega) (by omega)).trans (hbel.block i (by omega))).trans (ha.block i hi)⟩⟩
end
end Go.Proofs.YtippochapiolpaaGreatDoor
namespace Go.Proofs.YtippochapiolpaaGreatDoor
open Go.RowKit Go.Maps Go.Sort
section
variable {w w' V:World}{t g c:Nat}{P:Ps}{n m sig pid k:Int}{p q:Pr}
theorem QJ.aaW (h:QJ w t g P c) (hk:uD P k) (Vy:k≤24):Calls Tryz.prog 228 #[wp t] w fun e w'=>e=.returned (.int .i64 k)∧Below w.heap.size w w':=by
 have hkp:=hk.pos
 go_enter Tryz.func228,Tryz.ntmps228
 go_wp2_with fail
 go_loopg [3] 25 (fun mm s3 wr=>∃x:Nat,x+mm=26∧1≤x∧(x:Int)≤k∧s3=.int .i64 (x:Int)∧Below w.heap.size w wr)
 case atStart=>exact ⟨1,by omega,by omega,by omega,rfl,Below.refl _ _⟩
 case round=>
  obtain ⟨x,hx,hx1,hxk,rfl,hbel⟩:=hrel
  have hS:=(h.below hbel).toQM.state x (uq (by omega))
  by_cases hxe:(x:Int)=k
  ·rw [hxe,lY hk.no] at hS
   rw [hxe] at *
   go_wp2_with (go_at_call 147;refine hS.mono ?_;rintro e w1 ⟨rfl,hb⟩)
   go_ret
   exact ⟨rfl,hbel.trans (hb.mono hbel.size)⟩
  ·have hsm:=hk.all x (by omega) (by omega)
   have hne:=h.ok.isSome.1 hsm
   have hs0:(nN P x == 0)=false:=by simpa using hne
   generalize nN P x=s at *
   go_wp2_with (go_at_call 147;refine hS.mono ?_;rintro e w1 ⟨rfl,hb⟩)
   go_roundg (gk-1)
   case measure=>omega
   case rel=>exact ⟨x+1,by omega,by omega,by omega,by go_num,hbel.trans (hb.mono hbel.size)⟩
theorem JD.fork (h:JD P) (pid k:Int):JD (fU P pid k):=h.set (fun s z=>by cases z) (fun z=>by cases z)
theorem QJ.fork (h:QJ w t g P c) (pid:Int) (hn:(Lit.int .i64 pid).wf=true):Calls Tryz.prog 160 #[wp t,.int .i64 pid] w fun e w'=>e=.returned (.tuple #[.int .i64 (oq P pid c),aI (lQ P pid c)])∧Fw w t g (oo P pid c) w':=by
 have hr:=h.toQM.runs pid hn
 have hco:=fun V (hV:Below w.heap.size w V)=>(h.toQM.below hV).c0
 have I5:Aside _:=hco
 cases nO:aD P pid with
 |false=>
  rw [nO,if_neg (by simp),ax (by omega)] at hr
  have hE:lQ P pid c=7:=by unfold lQ;rw [if_pos nO]
  have hK:oq P pid c=0:=by unfold oq;rw [hE,if_neg (by omega)]
  have hQ:oo P pid c=P:=by unfold oo;rw [hE,if_neg (by omega)]
  rw [hE,hK,hQ,ax (by omega)]
  go_enter Tryz.func160,Tryz.ntmps160
  go_wp2_with (go_at_call 227;refine hr.mono ?_;rintro e w1 ⟨rfl,hb⟩)
  go_ret2
  exact ⟨rfl,.same h hb⟩
 |true=>
  rw [nO,if_pos rfl,aB] at hr
  by_cases Vy:24≤c
  ·have hE:lQ P pid c=12:=by unfold lQ;rw [if_neg (by rw [nO];simp),if_pos Vy]
   have hK:oq P pid c=0:=by unfold oq;rw [hE,if_neg (by omega)]
   have hQ:oo P pid c=P:=by unfold oo;rw [hE,if_neg (by omega)]
   rw [hE,hK,hQ,ax (by omega)]
   have afR:(24:Int)≤(c:Int):=by omega
   go_enter Tryz.func160,Tryz.ntmps160
   go_upto_region 4 with (go_at_call 227;refine hr.mono ?_;rintro e w1 ⟨rfl,hb⟩)
   have c1:=I5.out w1 hb
   have hm:=(h.toQM.below hb).map
   go_wp2_with (at_len;refine il rfl _ 127 rfl 126 Tryz.underlying127 g _ _ rfl hm ?_)
   go_ret2
   exact ⟨rfl,.same h hb⟩
  ·have hE:lQ P pid c=0:=by unfold lQ;rw [if_neg (by rw [nO];simp),if_neg Vy]
   obtain ⟨k,hk,hkl⟩:=uD.ex h.toQM.num (by omega)
   have hK:oq P pid c=k:=by unfold oq;rw [if_pos hE,wN hk hkl]
   have hQ:oo P pid c=fU P pid k:=by unfold oo;rw [if_pos hE,wN hk hkl]
   rw [hE,hK,hQ,aB]
   obtain ⟨q,hq,hst⟩:=dA.1 nO
   have afR:(c:Int)<24:=by omega
   have hkp:=hk.pos
   have hig:YJ P pid=q.ig:=by unfold YJ;rw [hq];rfl
   have hput:∀V,Below w.heap.size w V→∃w5,(Instr.mapUpdate 127 (.map (some g)) (.int .i64 k) (.agg #[.int .i64 1,.int .i64 pid,.int .i64 0,.int .u64 0,.int .u64 ((iV q.ig:Nat):Int)])).run Tryz.prog V=.ok () w5∧Fw w t g (fU P pid k) w5:=fun V hV=>by
    obtain ⟨w5,hrun,h5,s5⟩:=h.toQM.put hV k ⟨hkp,hkl⟩ ⟨pid,1,0,fI,YJ P pid⟩
    have e:qv ⟨pid,1,0,fI,YJ P pid⟩=.agg #[.int .i64 1,.int .i64 pid,.int .i64 0,.int .u64 0,.int .u64 ((iV q.ig:Nat):Int)]:=by
     unfold qv Ni;simp only [hig,if_true];unfold mv;rw [Jw];rfl
    rw [e] at hrun
    exact ⟨w5,hrun,_,⟨h5,h.ok.fork nO hk hkl,h.dj.fork pid k⟩,s5⟩
   have QO:Aside _:=hput
   have hlo:=fun V (hV:Below w.heap.size w V)=>(h.toQM.below hV).xu hq hn
   rw [hst,yt hst] at hlo
   have HLO:Aside _:=hlo
   have hle:=fun V (hV:Below w.heap.size w V)=>(h.below hV).aaW hk hkl
   have HLE:Aside _:=hle
   go_enter Tryz.func160,Tryz.ntmps160
   go_upto_region 4 with (go_at_call 227;refine hr.mono ?_;rintro e w1 ⟨rfl,hb⟩)
   have c1:=I5.out w1 hb
   have hm:=(h.toQM.below hb).map
   have hl1:=HLE.out w1 hb
   go_upto_region 7 with (first
    |(at_len;refine il rfl _ 127 rfl 126 Tryz.underlying127 g _ _ rfl hm ?_)
    |(go_at_call 228;refine hl1.mono ?_;rintro e w2 ⟨rfl,hb2⟩))
   have b2:Below w.heap.size w w2:=hb.trans (hb2.mono hb.size)
   have c2:=I5.out w2 b2
   have l2:=HLO.out _ (bP b2)
   have f2:=(VH 1 q.parent q.code (iV q.wt:Nat) (iV q.ig:Nat) w2.drew).2.2.2
   obtain ⟨w5,hrun,h5⟩:=QO.out _ (bP b2)
   go_region
   all_goals
    go_wp2_with fail
    go_ret2
    exact ⟨rfl,h5⟩
theorem QM.hand (h:QM w t g P c) (hq:P n=some q) (to:Int):Calls Tryz.prog 282 #[wp t,.int .i64 n,.int .i64 to] w fun e w'=>e=.returned (.tuple #[])∧QM w' t g (nZ P n { q with parent:=to }) c∧Vl g w w':=by
 have hk:=h.key n q hq
 have c0:=h.c0
 have l0:=h.xu hq (uq (by omega))
 have hput:∀V,Below w.heap.size w V→∃w5,(Instr.mapUpdate 127 (.map (some g)) (.int .i64 n) (.agg #[.int .i64 q.state,.int .i64 to,.int .i64 q.code,.int .u64 ((iV q.wt:Nat):Int),.int .u64 ((iV (Ni q):Nat):Int)])).run Tryz.prog V=.ok () w5∧QM w5 t g (nZ P n { q with parent:=to }) c∧Vl g w w5:=fun V hV=>by
  obtain ⟨w5,hrun,h5,s5⟩:=h.put hV n hk { q with parent:=to }
  rw [hq] at h5
  exact ⟨w5,hrun,h5,s5⟩
 have hA:=(Below.refl _ w).alloc (Nat.le_refl _) (.cells #[.int .i64 q.state,.int .i64 to,.int .i64 q.code,.int .u64 ((iV q.wt:Nat):Int),.int .u64 ((iV (Ni q):Nat):Int)] 126)
 obtain ⟨w5,hrun,h5⟩:=hput _ (bP hA)
 have c1:=(h.below hA).c0
 go_enter Tryz.func282,Tryz.ntmps282
 go_upto_region 2 with fail
 go_region
 all_goals
  go_wp2_with fail
  go_end0
  exact ⟨rfl,h5⟩
end
end Go.Proofs.YtippochapiolpaaGreatDoor

/- KernelLeaks, plainly: what is left when all others have gone, and 1 has given up what it had. -/
import Derived.Test.YtcfhanoekniaaaaGreatDoorZTalks
import Derived.Test.YtcfhanoekniaaaaGreatDoorJDead
import Derived.Test.YtcfhanoekniaaaaGreatDoorZScr
import Derived.Deep.LoopGhost
import Derived.Deep.DeepCutAuto
import Derived.Deep.CutBlock
set_option maxHeartbeats 16000000
set_option maxRecDepth 100000
namespace Go.Proofs.YtcfhanoekniaaaaGreatDoor
section
variable {S S':KS}{p a b c k v:Int}{s t:List UInt8}{o:Ow}
theorem StoreK.n {went:List Int}{er:Int}(r:StoreK p a k v S went er S'):S'.n=S.n:=by
 induction r with
 |done ho h h12=>rfl
 |nobody ho h hv=>rfl
 |self ho h hv he=>rfl
 |goes ho h hv he hx h1 hne r ih=>exact ih
theorem CallK.n {W e:Int}(r:CallK S p a b c s t W e S'):S'.n=S.n:=by
 cases r with
 |nobody ho hW=>rfl
 |other hW=>rfl
 |full hW ho hc=>rfl
 |fork hW ho hc=>rfl
 |exit ho=>unfold exitKS;split<;>rfl
 |exec ho=>rfl
 |wait ho=>rfl
 |map hW ho=>unfold mapKS;split<;>rfl
 |unmap ho=>rfl
 |store hW ho r=>exact r.n
 |file hW ho hn hk r=>
  rcases r with ⟨_,_,_,rfl⟩|⟨_,_,_,_,rfl⟩<;>rfl
 |pipe ho hn r=>
  rcases r with ⟨_,_,_,_,rfl⟩|⟨_,_,_,_,rfl⟩<;>rfl
 |dup ho=>unfold dupKS;split<;>rfl
 |dup2 ho=>unfold dup2KS;split<;>rfl
 |close ho=>rfl
 |write ho=>unfold writeKS;split<;>rfl
 |read ho=>rfl
 |limit ho=>rfl
 |kill ho=>rfl
 |signal ho h1 hs=>rfl
 |quiet ho hs=>rfl
 |first ho h1=>rfl
 |mkdir ho hk r=>rfl
 |unlink ho=>rfl
 |rename ho=>rfl
 |protect ho=>rfl
 |mark yes ho=>rfl
 |adjust ho=>unfold adjKS;split<;>rfl
def FreeTo (N:Ns) (i:Nat):Prop:=∀y (hy:y<N.length),y<i→¬0<N[y].1
theorem FreeTo.close {N:Ns}{i:Nat}(h:FreeTo N i) (h8:N.length=8) (hi:i<8):FreeTo (closeN N (i:Int)) (i+1):=by
 unfold closeN
 split
 ·intro y hy hyi
  rw [List.length_set] at hy
  rw [List.getElem_set]
  split
  ·simp
  ·rename_i hne
   exact h y hy (by simp at hne;omega)
 ·rename_i hh
  intro y hy hyi
  by_cases e:y=i
  ·subst e
   intro z
   refine hh ?_
   unfold hasN
   rw [show ((y:Int).toNat)=y by omega,List.getD_eq_getElem?_getD,List.getElem?_eq_getElem hy]
   simp only [Option.getD_some,Bool.and_eq_true,decide_eq_true_eq]
   exact ⟨⟨by omega,by omega⟩,z⟩
  ·exact h y hy (by omega)
theorem FreeTo.all {N:Ns}(h:FreeTo N 8) (h8:N.length=8):usedN N=0:=usedN_zero fun x hx=>by
 obtain ⟨y,hy,rfl⟩:=List.getElem_of_mem hx
 exact h y hy (by omega)
def Bare0 (S:KS):Prop:=∀j,j<S.Ts.length→msJ S j=noP∧tsJ S j=zeroN
theorem bare_of (kk:KOk S) (h:∀x o,S.O x=some o→msJ S o.j=noP∧tsJ S o.j=zeroN):Bare0 S:=fun j hj=>by
 by_cases e:∃x o,S.O x=some o∧o.j=j
 ·obtain ⟨x,o,ho,rfl⟩:=e
  exact h x o ho
 ·have:=kk.gone j hj (fun x o ho z=>e ⟨x,o,ho,z⟩)
  exact ⟨this.2,this.1⟩
theorem sum_zeros:∀ {l:List Nat},(∀x∈l,x=0)→l.sum=0
 | [],_=>rfl
 |x :: l,h=>by
  rw [List.sum_cons,h x List.mem_cons_self,sum_zeros (fun y hy=>h y (List.mem_cons_of_mem _ hy))]
theorem Bare0.left (h:Bare0 S) (hl:S.Ms.length=S.Ts.length):S.n-used (totM S.Ms) S.n=S.n:=by
 rw [used_congr (t':=fun _=>0) (fun x hx=>by
  unfold totM
  refine sum_zeros fun y hy=>?_
  obtain ⟨P,hP,rfl⟩:=List.mem_map.1 hy
  obtain ⟨j,hj,rfl⟩:=List.getElem_of_mem hP
  rw [←ms_at hj,(h j (by omega)).1]
  exact sh_empty hx),used_zero]
 omega
theorem Bare0.tables (h:Bare0 S):∀N∈S.Ts,N=zeroN:=fun N hN=>by
 obtain ⟨j,hj,rfl⟩:=List.getElem_of_mem hN
 rw [←ts_at hj];exact (h j hj).2
end
section
variable {w:World}{m:Int}{H:KH}{S:KS}{q:Nat}{A:Nat→Prop}{p:Int}{o:Ow}
theorem cntN_zeroZ {d:Int}(hd:0<d):cntN d zeroN=0:=by
 have:d≠0:=by omega
 simp [cntN,zeroN,List.replicate,Ne.symm this]
theorem Bare0.open (h:Bare0 S) (hn:KN w m H S q A):IsN S.D.E 0:=IsN.nil fun x=>by
 have hi:=hn.1.inv
 by_cases h0:0<x
 ·have h1:=hi.core.cE x h0
  have h2:cntS x S.Ts=0:=by
   unfold cntS
   refine sum_zeros fun y hy=>?_
   obtain ⟨N,hN,rfl⟩:=List.mem_map.1 hy
   rw [h.tables N hN]
   exact cntN_zeroZ h0
  rw [h2] at h1
  cases e:S.D.E x with
  |none=>rfl
  |some z=>rw [e] at h1;exact absurd (h1.1 rfl) (by omega)
 ·cases e:S.D.E x with
  |none=>rfl
  |some z=>exact absurd (hi.core.giv.e x (by rw [e];rfl)).1 h0
theorem bare_one (hn:KN w m H S q A) (hp:pidsJ S.P=[1]) (ho:S.O 1=some o) (hm:msJ S o.j=noP) (hf:FreeTo (tsJ S o.j) 8):Bare0 S:=by
 have hj:JOk S.P:=by
  obtain ⟨G,g,_⟩:=hn.1
  obtain ⟨c,qj⟩:=g.qj
  exact qj.ok
 have hz:tsJ S o.j=zeroN:=tab_zero (hn.1.tlen o.j) (hf.all (hn.1.tlen o.j)) (hn.1.tabs ho).1
 refine bare_of hn.2 fun x o' hx=>?_
 have hr:runsJ S.P x=true:=by rw [←hn.2.run x,hx];rfl
 obtain ⟨r,hr,_⟩:=runsJ_iff.1 hr
 have hx1:x∈pidsJ S.P:=hj.pids.2 (by rw [hr];rfl)
 rw [hp] at hx1
 obtain rfl:=List.mem_singleton.1 hx1
 rw [ho] at hx
 cases hx
 exact ⟨hm,hz⟩
end
end Go.Proofs.YtcfhanoekniaaaaGreatDoor
namespace Go.Proofs.YtcfhanoekniaaaaGreatDoor
open Go.RowKit Go.Maps
theorem leaks_long (n:Int) (ad:Option Addr) (len cap:Nat) (q:Nat→CI) (w:World) (hsc:CScr w ad len q) (h:¬Short q len) :
 Calls Tryz.prog 6 #[.int .i64 n,.slice ad len cap] w fun e w'=>e=.returned (.bool true)∧Below w.heap.size w w':=by
 have hC:=calls_no ad len cap q w hsc h
 clear hsc h
 go_enter Tryz.func6,Tryz.ntmps6
 go_wp2_with (go_at_call 31;refine hC.mono ?_;rintro e w1 ⟨rfl,hw1⟩;subst w1)
 go_ret
 exact ⟨rfl,Below.refl _ _⟩
structure Lk (S:KS) (n9 i:Nat):Prop where
 n:S.n=n9
 pids:pidsJ S.P=[1]
 one:∃o,S.O 1=some o∧msJ S o.j=noP∧FreeTo (tsJ S o.j) i
theorem Lk.exec {w:World}{m:Int}{kb q n9:Nat}{C:Kcs}{S:KS}{w0:World}(k:KC w0 w m kb C S q) {o:Ow}(ho:S.O 1=some o) (hn:S.n=n9) (hp:pidsJ S.P=[1]):Lk (execKS S o) n9 0:=by
 obtain ⟨H,A,kn⟩:=k.kn
 have hj:=kn.lie.lt _ _ ho
 refine ⟨hn,hp,o,ho,?_,fun y hy h=>by omega⟩
 show msJ (S.space o.j noP S.W) o.j=noP
 rw [ms_space (by rw [kn.lie.len];exact hj),if_pos rfl]
theorem Lk.close {w:World}{m:Int}{kb q n9 i:Nat}{C:Kcs}{S:KS}{w0:World}(k:KC w0 w m kb C S q) {o:Ow}(ho:S.O 1=some o) (h:Lk S n9 i) (hi:i<8):Lk (closeKS S o (i:Int)) n9 (i+1):=by
 obtain ⟨H,A,kn⟩:=k.kn
 have hj:=kn.lie.lt _ _ ho
 obtain ⟨o',ho',h1,h2⟩:=h.one
 rw [ho] at ho'
 cases ho'
 refine ⟨h.n,h.pids,o,ho,h1,?_⟩
 show FreeTo (tsJ (S.files (closeD S.D (tsJ S o.j) (i:Int)) o.j (closeN (tsJ S o.j) (i:Int))) o.j) (i+1)
 rw [ts_files hj,if_pos rfl]
 exact h2.close (kn.1.tlen o.j) hi
theorem Lk.end {w:World}{m:Int}{kb q n9:Nat}{C:Kcs}{S:KS}{w0:World}(k:KC w0 w m kb C S q) (h:Lk S n9 8):(∃o,S.O 1=some o∧usedN (tsJ S o.j)=0)∧S.n-used (totM S.Ms) S.n=n9∧IsN S.D.E 0:=by
 obtain ⟨H,A,kn⟩:=k.kn
 obtain ⟨o,ho,h1,h2⟩:=h.one
 have B:=bare_one kn h.pids ho h1 h2
 exact ⟨⟨o,ho,h2.all (kn.1.tlen o.j)⟩,by rw [B.left kn.lie.len];exact h.n,B.open kn⟩
theorem leaks_short (n:Int) (ad:Option Addr) (len cap:Nat) (q:Nat→CI) (w:World) (hsc:CScr w ad len q) (hS:Short q len) (m:Int) (hm:w.cell? ⟨4,0,none⟩=some (.int .i64 m)) (he:w.cell? ⟨0,0,none⟩=some errT) (ht:Tab64 w) :
 Calls Tryz.prog 6 #[.int .i64 n,.slice ad len cap] w fun e w'=>e=.returned (.bool true)∧Below w.heap.size w w':=by
 have hC:=calls_yes ad len cap q w hsc hS
 have hl40:len≤40:=hS.1
 have hK:=kept_ok (ok:=true) w hm he ⟨ht.lt,fun _=>ht⟩
 obtain ⟨n8,hn8,hp1⟩:=talk_pick n 12 (by omega) (by omega)
 have hF:=fun V (b:Below w.heap.size w V)=>kc_new w V b (1+n8) (by omega) (by omega) hm he ht
 have hn9:((1+n8:Nat):Int)=1+(n8:Int):=by omega
 rw [hn9] at hF
 clear hn9
 clear hm he ht
 go_enter Tryz.func6,Tryz.ntmps6
 go_upto_region 9 with (first
  |(go_at_call 31;refine hC.mono ?_;rintro e w1 ⟨rfl,hw1⟩;subst w1)
  |(go_at_call 11;refine hK.mono ?_;rintro e w1 ⟨rfl,b1⟩;have c0:=hF _ b1)
  |(go_at_call 18;refine (hp1 _).mono ?_;rintro e w3 ⟨rfl,hw3⟩;subst w3)
  |(go_at_call 12;refine c0.mono ?_;rintro e w2 ⟨kb,rfl,k2⟩))
 clear c0 hF hK hC hp1 b1
 have hn0:(firstS (1+n8)).n=1+n8:=rfl
 generalize firstS (1+n8)=S1 at *
 go_wp2_with fail
 go_loopg [7] len (fun g s7 wx=>∃(i:Nat) (S:KS),Aside (i+g=len)∧s7=.int .i64 (i:Int)∧KC w wx m kb [] S i∧Aside (S.n=1+n8))
 case atStart=>exact ⟨0,S1,(show 0+len=len by omega),rfl,k2,hn0⟩
 case round=>
  clear k2 hn0
  obtain ⟨i,S,HI,rfl,k,HN⟩:=hrel
  have hb:=k.bel
  by_cases hlt:(i:Int)<(len:Int)
  ·rcases hsc.keep hb with h0|⟨blk,off,rfl,hbl,hss⟩
   ·exfalso;omega
   obtain ⟨⟨c0,c1,c2,c3,c4,c5,c6⟩,hok⟩:=hss i (by omega)
   have hsl:=hS.2 i (by omega)
   have hP:=k.call (by omega) (q i) hok hsl.1 hsl.2
   clear hss hok hsl hb
   generalize (q i).what=W at *
   generalize (q i).p=p at *
   generalize (q i).a=a at *
   generalize (q i).b=b at *
   generalize (q i).c=c at *
   generalize (q i).s=s at *
   generalize (q i).t=t at *
   go_wp2_with (go_at_call 33;refine hP.mono ?_;rintro e w5 ⟨er,S',rfl,hR,k5⟩)
   go_roundg (gk-1)
   case measure=>have:=HI.out;omega
   case rel=>exact ⟨i+1,S',(show i+1+(gk-1)=len by have:=HI.out;omega),by go_num,k5,(show S'.n=1+n8 by rw [hR.n];exact HN.out)⟩
  ·have hi40:i≤40:=by have:=HI.out;omega
   have hPi:=k.pids
   have hone:=pids_one k.jok
   have hris:=pidsJ_rising S.P
   have hL24:=k.len24
   clear hsc hS hb
   go_wp2_with (go_at_call 34;refine hPi.mono ?_;rintro e w6 ⟨bp,cp,rfl,hcp,k6,b6⟩)
   have HM:Aside (∀j (hj:j<(pidsJ S.P).length),(bp,j,Value.int .i64 (pidsJ S.P)[j])∈icells bp (pidsJ S.P) ++ []):=fun j hj=>List.mem_append_left _ (icells_mem hj)
   have HW:Aside (∀x∈pidsJ S.P,(Lit.int .i64 x).wf=true):=fun x hx=>k6.wf hx
   clear hPi b6 k
   generalize hC9:icells bp (pidsJ S.P) ++ []=C9 at *
   clear hC9
   generalize hLL:pidsJ S.P=L at *
   obtain ⟨R,hR⟩:=hone
   have hl1:1≤L.length:=by rw [hR];simp
   have HRR:Aside (L=1 :: R):=hR
   have HRI:Aside (L.Pairwise (· < ·)):=hris
   clear hR hris
   go_loopg [9] L.length (fun mm s9 wr=>∃(j:Nat) (S':KS),Aside (j+mm=L.length)∧s9=.int .i64 (j:Int)∧KC w wr m kb C9 S' i∧Aside (pidsJ S'.P=L)∧Aside (S'.n=1+n8)∧Aside (∀y (hy:y<L.length),y<j→L[y]≠1→stJ S'.P L[y]=2))
   case atStart=>exact ⟨0,S,(show 0+L.length=L.length by omega),rfl,k6,hLL,HN.out,fun y _ hy=>by omega⟩
   case round=>
    clear k6 hLL HN S
    obtain ⟨j,S,HJ,rfl,k,HP,HN,HD⟩:=hrel
    by_cases hjl:(j:Int)<(L.length:Int)
    ·have hjL:j<L.length:=by omega
     have cj:=k.at (HM.out j hjL)
     have hcv:Aside (∀V,KC w V m kb C9 S i→V.cell? ⟨bp,j,none⟩=some (.int .i64 L[j])):=fun V kV=>kV.at (HM.out j hjL)
     have hmem:L[j]∈pidsJ S.P:=by rw [HP.out];exact List.getElem_mem hjL
     have hwf:=k.wf hmem
     have hcj:(j:Int)<(cp:Int):=by omega
     have HND:Aside L.Nodup:=by rw [←HP.out];exact pidsJ_nodup S.P
     have HNX:Aside (∀P':Ps,(L[j]≠1→stJ P' L[j]=2)→(∀x,x≠L[j]→stJ P' x=stJ S.P x)→∀y (hy:y<L.length),y<j+1→L[y]≠1→stJ P' L[y]=2):=fun P' a1 a2 y hy hyj hy1=>by
      by_cases e:y=j
      ·subst e;exact a1 hy1
      ·rw [a2 _ (fun z=>e ((List.getElem_inj HND.out).1 z))]
       exact HD.out y hy (by omega) hy1
     generalize hNN:L[j]=N at *
     clear hNN
     by_cases hN1:N=1
     ·subst hN1
      go_wp2_with fail
      go_roundg (gk-1)
      case measure=>have:=HJ.out;omega
      case rel=>exact ⟨j+1,S,(show j+1+(gk-1)=L.length by have:=HJ.out;omega),by go_num,k,HP,HN,HNX.out S.P (fun z=>absurd rfl z) (fun _ _=>rfl)⟩
     ·have hNb:(N == 1)=false:=by simpa using hN1
      have hSt:=k.state N hwf
      have hjok:=k.jok
      obtain ⟨qn,hqn⟩:=Option.isSome_iff_exists.1 (hjok.pids.1 hmem)
      cases hru:runsJ S.P N with
      |true=>
       have hO:∃o,S.O N=some o:=by
        obtain ⟨H,A,kn⟩:=k.kn
        have:=kn.2.run N
        rw [hru] at this
        exact Option.isSome_iff_exists.1 this
       obtain ⟨o,ho⟩:=hO
       rw [show stJ S.P N=1 by unfold runsJ at hru;exact of_decide_eq_true hru] at hSt
       have hX:=fun V (kV:KC w V m kb C9 S i)=>kV.exit (by omega) ho hN1 0
       have a1:stJ (endKS S N o 0).P N=2:=by show stJ (exitP S.P N 0) N=2;rw [exitP_st,if_pos ⟨rfl,by rw [hqn];rfl⟩]
       have a2:∀x,x≠N→stJ (endKS S N o 0).P x=stJ S.P x:=fun x hx=>by show stJ (exitP S.P N 0) x=_;rw [exitP_st,if_neg (fun z=>hx z.1)]
       have HP2:Aside (pidsJ (endKS S N o 0).P=L):=by show pidsJ (exitP S.P N 0)=L;rw [exit_same];exact HP.out
       have HN2:Aside ((endKS S N o 0).n=1+n8):=HN.out
       have HF:Aside (∀y (hy:y<L.length),y<j+1→L[y]≠1→stJ (endKS S N o 0).P L[y]=2):=HNX.out (endKS S N o 0).P (fun _=>a1) a2
       clear a1 a2 hru hmem hqn ho hjok
       generalize endKS S N o 0=S2 at *
       go_wp2_with (first
        |(go_at_call 35;refine hSt.mono ?_;rintro e w8 ⟨rfl,k8,b8⟩;have hX8:=hX _ k8;have cj8:=hcv.out _ k8)
        |(go_at_call 20;refine hX8.mono ?_;rintro e w9 ⟨rfl,k9⟩))
       go_roundg (gk-1)
       case measure=>have:=HJ.out;omega
       case rel=>exact ⟨j+1,S2,(show j+1+(gk-1)=L.length by have:=HJ.out;omega),by go_num,k9,HP2,HN2,HF⟩
      |false=>
       have a1:stJ S.P N=2:=by
        have h5:=hjok.st N qn hqn
        unfold runsJ at hru
        rw [stJ_some hqn] at hru ⊢
        simp only [decide_eq_false_iff_not] at hru
        omega
       rw [a1] at hSt
       have HF:Aside (∀y (hy:y<L.length),y<j+1→L[y]≠1→stJ S.P L[y]=2):=HNX.out S.P (fun _=>a1) (fun _ _=>rfl)
       clear a1 hru hmem hqn hjok
       go_wp2_with (go_at_call 35;refine hSt.mono ?_;rintro e w8 ⟨rfl,k8,b8⟩)
       go_roundg (gk-1)
       case measure=>have:=HJ.out;omega
       case rel=>exact ⟨j+1,S,(show j+1+(gk-1)=L.length by have:=HJ.out;omega),by go_num,k8,HP,HN,HF⟩
    ·have hjok:=k.jok
     have HDE:Aside (AllDead S.P):=AllDead.of hjok (fun x r e hx=>by
      have hm:x∈L:=by rw [←HP.out];exact hjok.pids.2 (by rw [e];rfl)
      obtain ⟨jx,hjx,e2⟩:=List.getElem_of_mem hm
      have:=HD.out jx hjx (by have:=HJ.out;omega) (by rw [e2];exact hx)
      rw [e2,stJ_some e] at this
      exact this)
     have HPP:Aside (pidsJ S.P=1 :: L.drop 1):=by rw [HP.out,HRR.out];rfl
     clear HD HP hjok
     go_wp2_with fail
     go_loopg [10,11,12,13] (L.length-1) (fun mm s10 _ _ _ wr=>∃(y:Nat) (S':KS),Aside (1≤y∧y+mm=L.length)∧s10=.int .i64 (y:Int)∧KC w wr m kb C9 S' i∧Aside (AllDead S'.P)∧Aside (pidsJ S'.P=1 :: L.drop y)∧Aside (S'.n=1+n8))
     case atStart=>exact ⟨1,S,(show 1≤1∧1+(L.length-1)=L.length by omega),rfl,k,HDE,HPP,HN⟩
     case round=>
      clear k HDE HPP HN S
      obtain ⟨y,S,HY,rfl,k,HDE,HPP,HN⟩:=hrel
      have hO:∃o,S.O 1=some o:=by
       obtain ⟨H,A,kn⟩:=k.kn
       have:=kn.2.run 1
       obtain ⟨r1,e1,s1,_⟩:=k.jok.one
       rw [runsJ_iff.2 ⟨r1,e1,s1⟩] at this
       exact Option.isSome_iff_exists.1 this
      obtain ⟨o,ho⟩:=hO
      by_cases hyl:(y:Int)<(L.length:Int)
      ·have hyL:y<L.length:=by omega
       have hdr:L.drop y=L[y] :: L.drop (y+1):=List.drop_eq_getElem_cons hyL
       have hpp:=HPP.out
       rw [hdr] at hpp
       obtain ⟨n1,n2,n3,n4⟩:=wait_next k.jok HDE.out hpp
       have hW:=k.wait ho
       rw [n2,uev_zero] at hW
       have HP3:Aside (pidsJ (S.procs (waitO S.P 1).2.2.2).P=1 :: L.drop (y+1)):=n3
       have HD3:Aside (AllDead (S.procs (waitO S.P 1).2.2.2).P):=n4
       have HN3:Aside ((S.procs (waitO S.P 1).2.2.2).n=1+n8):=HN.out
       clear n1 n2 n3 n4 hpp hdr ho
       generalize S.procs (waitO S.P 1).2.2.2=S2 at *
       generalize (waitO S.P 1).1=z1 at *
       generalize (waitO S.P 1).2.1=z2 at *
       go_wp2_with (go_at_call 36;refine hW.mono ?_;rintro e w8 ⟨rfl,k8⟩)
       go_roundg (gk-1)
       case measure=>have:=HY.out;omega
       case rel=>exact ⟨y+1,S2,(show 1≤y+1∧y+1+(gk-1)=L.length by have:=HY.out;omega),by go_num,k8,HD3,HP3,HN3⟩
      ·have hpp:pidsJ S.P=[1]:=by
        rw [HPP.out,List.drop_eq_nil_of_le (by have:=HY.out;omega)]
       have hE:=k.exec (by omega) ho
       have HL:Aside (Lk (execKS S o) (1+n8) 0):=Lk.exec k ho HN.out hpp
       clear hpp ho HDE HPP HN HY
       generalize execKS S o=S2 at *
       go_upto_region 27 with (go_at_call 37;refine hE.mono ?_;rintro e w8 ⟨rfl,k8⟩)
       clear hE k S
       go_wp2_with fail
       go_loopg [14] 8 (fun mm s14 wr=>∃(y:Nat) (S':KS),Aside (y+mm=8)∧s14=.int .i64 (y:Int)∧KC w wr m kb C9 S' i∧Aside (Lk S' (1+n8) y))
       case atStart=>exact ⟨0,S2,(show 0+8=8 by omega),rfl,k8,HL⟩
       case round=>
        clear k8 HL S2
        obtain ⟨y,S,HY,rfl,k,HL⟩:=hrel
        by_cases hy8:(y:Int)<8
        ·obtain ⟨o,ho,_⟩:=HL.out.one
         have hCl:=k.close (by omega) ho (y:Int)
         have HL2:Aside (Lk (closeKS S o (y:Int)) (1+n8) (y+1)):=Lk.close k ho HL.out (by omega)
         generalize (if hasN (tsJ S o.j) (y:Int)=true then (0:Int) else 7)=er at *
         generalize closeKS S o (y:Int)=S2 at *
         clear ho
         go_wp2_with (go_at_call 15;refine hCl.mono ?_;rintro e w8 ⟨rfl,k8⟩)
         go_roundg (gk-1)
         case measure=>have:=HY.out;omega
         case rel=>exact ⟨y+1,S2,(show y+1+(gk-1)=8 by have:=HY.out;omega),by go_num,k8,HL2⟩
        ·have hy:y=8:=by have:=HY.out;omega
         subst hy
         obtain ⟨⟨o,ho,hu⟩,hlf,hop⟩:=Lk.end k HL.out
         have hH:=k.has_yes ho
         have hLe:=fun V (kV:KC w V m kb C9 S i)=>kV.left
         have hOp:=fun V (kV:KC w V m kb C9 S i)=>kV.opens hop
         have hPi:=fun V (kV:KC w V m kb C9 S i)=>kV.pids
         simp only [hlf,show ((1+n8:Nat):Int)=1+(n8:Int) by omega] at hLe
         simp only [HL.out.pids] at hPi
         rw [hu] at hH
         clear ho hu hlf hop HL HY
         generalize lenP (msJ S o.j)=A1 at *
         generalize resP (msJ S o.j)=A2 at *
         go_wp2_with (first
          |(go_at_call 38;refine hH.mono ?_;rintro e w8 ⟨rfl,k8,b8⟩)
          |(go_at_call 39;refine (hLe _ k8).mono ?_;rintro e w9 ⟨rfl,hw9⟩;subst w9)
          |(go_at_call 21;refine (hOp _ k8).mono ?_;rintro e w9 ⟨rfl,hw9⟩;subst w9)
          |(go_at_call 34;refine (hPi _ k8).mono ?_;rintro e w9 ⟨bq,cq,rfl,_,k9,_⟩))
         go_ret
         exact ⟨rfl,k9.bel⟩
end Go.Proofs.YtcfhanoekniaaaaGreatDoor

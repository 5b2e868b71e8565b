/- KernelLimits: the walk of its Go text. -/
import Derived.Test.YtcfhanoekniaaaaGreatDoorZScr
import Derived.Test.YtcfhanoekniaaaaGreatDoorZTalks
import Derived.Deep.LoopGhost
import Derived.Deep.DeepCutAuto
import Derived.Deep.CutBlock
set_option maxHeartbeats 8000000
set_option maxRecDepth 100000
namespace Go.Proofs.YtcfhanoekniaaaaGreatDoor
open Go.RowKit Go.Maps
theorem limits_long (pages fds:Int) (ad:Option Addr) (len cap:Nat) (q:Nat→CI) (w:World) (hsc:CScr w ad len q) (h:¬Short q len) :
 Calls Tryz.prog 9 #[.int .i64 pages,.int .i64 fds,.slice ad len cap] w fun e w'=>e=.returned (.bool true)∧Below w.heap.size w w':=by
 have hC:=calls_no ad len cap q w hsc h
 clear hsc h
 go_enter Tryz.func9,Tryz.ntmps9
 go_wp2_with (go_at_call 31;refine hC.mono ?_;rintro e w1 ⟨rfl,hw1⟩;subst w1)
 go_ret
 exact ⟨rfl,Below.refl _ _⟩
theorem limits_short (pages fds:Int) (ad:Option Addr) (len cap:Nat) (q:Nat→CI) (w:World) (hsc:CScr w ad len q) (hS:Short q len) (m:Int) (hm:w.cell? ⟨4,0,none⟩=some (.int .i64 m)) (he:w.cell? ⟨0,0,none⟩=some errT) (ht:Tab64 w) :
 Calls Tryz.prog 9 #[.int .i64 pages,.int .i64 fds,.slice ad len cap] w fun e w'=>e=.returned (.bool true)∧Below w.heap.size w w':=by
 have hC:=calls_yes ad len cap q w hsc hS
 have hl40:len≤40:=hS.1
 have hK:=kept_ok (ok:=true) w hm he ⟨ht.lt,fun _=>ht⟩
 have hF:=fun V (b:Below w.heap.size w V)=>kc_new w V b 20 (by omega) (by omega) hm he ht
 obtain ⟨pg,hpg,hp1⟩:=talk_pick pages 12 (by omega) (by omega)
 obtain ⟨fd,hfd,hp2⟩:=talk_pick fds 9 (by omega) (by omega)
 have hL1:∀V kb,KC w V m kb [] (firstS 20) 0→Calls Tryz.prog 41 #[wp kb,.int .i64 1,.int .i64 0,.int .i64 pg] V fun y w'=>y=.returned .nilIface∧KC w w' m kb [] (limKS (firstS 20) 1 ⟨0,firstM,0⟩ 0 pg) 1:=fun V kb k=>by
  have:=k.limit (p:=1) (o:=⟨0,firstM,0⟩) (by decide) rfl 0 pg
  rw [show limE 0 pg=0 by unfold limE;rw [if_neg (by omega),if_neg (by omega)],uev_zero] at this
  exact this
 have hL2:∀V kb,KC w V m kb [] (limKS (firstS 20) 1 ⟨0,firstM,0⟩ 0 pg) 1→Calls Tryz.prog 41 #[wp kb,.int .i64 1,.int .i64 1,.int .i64 fd] V fun y w'=>y=.returned .nilIface∧∃S1,KC w w' m kb [] S1 2∧LimK S1 pg fd:=fun V kb k=>by
  have:=k.limit (p:=1) (o:=⟨0,limM firstM 0 pg,0⟩) (by decide) rfl 1 fd
  rw [show limE 1 fd=0 by unfold limE;rw [if_neg (by omega),if_neg (by omega)],uev_zero] at this
  refine this.mono ?_
  rintro y w' ⟨rfl,k'⟩
  exact ⟨rfl,_,k',LimK.begin (n:=20) ⟨by omega,by omega⟩ rfl ⟨by omega,by omega⟩⟩
 clear hm he ht
 go_enter Tryz.func9,Tryz.ntmps9
 go_upto_region 11 with (first
  |(go_at_call 31;refine hC.mono ?_;rintro e w1 ⟨rfl,hw1⟩;subst w1)
  |(go_at_call 11;refine hK.mono ?_;rintro e w1 ⟨rfl,b1⟩;have c0:=hF _ b1)
  |(go_at_call 12;refine c0.mono ?_;rintro e w2 ⟨kb,rfl,k2⟩)
  |(go_at_call 18;refine (hp2 _).mono ?_;rintro e w3 ⟨rfl,hw3⟩;subst w3)
  |(go_at_call 18;refine (hp1 _).mono ?_;rintro e w3 ⟨rfl,hw3⟩;subst w3)
  |(go_at_call 41;refine (hL2 _ _ k3).mono ?_;rintro e w4 ⟨rfl,S1,k4,l4⟩)
  |(go_at_call 41;refine (hL1 _ _ k2).mono ?_;rintro e w3 ⟨rfl,k3⟩))
 clear c0 hF hK hC hL1 hL2 hp1 hp2 b1 k2 k3
 go_wp2_with fail
 go_loopg [9,10,11,12,13,14,15] len (fun g s9 _ _ _ _ _ _ wx=>∃(i:Nat) (S:KS),Aside (i+g=len)∧s9=.int .i64 (i:Int)∧KC w wx m kb [] S (i+2)∧LimK S pg fd)
 case atStart=>exact ⟨0,S1,(show 0+len=len by omega),rfl,k4,l4⟩
 case round=>
  clear k4 l4
  obtain ⟨i,S,HI,rfl,k,l⟩:=hrel
  have hb:=k.bel
  by_cases hlt:(i:Int)<(len:Int)
  ·rcases hsc.keep hb with h0|⟨blk,off,rfl,hbl,hss⟩
   ·exfalso;omega
   obtain ⟨⟨c0,c1,c2,c3,c4,c5,c6⟩,hok⟩:=hss i (by omega)
   have hsl:=hS.2 i (by omega)
   have hP:=k.call (by have:=hS.1;omega) (q i) hok hsl.1 hsl.2
   have HP:Aside (∀e S',(q i).what≠19→CallK S (q i).p (q i).a (q i).b (q i).c (q i).s (q i).t (q i).what e S'→LimK S' pg fd):=fun e S' hne r=>by
    obtain ⟨H,A,kn⟩:=k.kn
    exact LimK.call r hne kn l
   clear hss hok hsl hb
   generalize (q i).what=W at *
   generalize (q i).p=p at *
   generalize (q i).a=a at *
   generalize (q i).b=b at *
   generalize (q i).c=c at *
   generalize (q i).s=s at *
   generalize (q i).t=t at *
   by_cases hW:W=19
   ·subst hW
    clear hP HP c1 c2 c3 c4 c5 c6
    go_wp2_with fail
    go_roundg (gk-1)
    case measure=>have:=HI.out;omega
    case rel=>exact ⟨i+1,S,(show i+1+(gk-1)=len by have:=HI.out;omega),by go_num,k.more (by omega),l⟩
   ·have hWb:(W == 19)=false:=by simpa using hW
    obtain ⟨g1,hg1⟩:∃g1,g1=gk:=⟨_,rfl⟩
    go_upto_region 16 with (go_at_call 33;refine hP.mono ?_;rintro e w5 ⟨er,S',rfl,hR,k5⟩;have l5:=HP.out er S' hW hR)
    clear hP HP k l hR c0 c1 c2 c3 c4 c5 c6
    have hPi:=k5.pids
    go_upto_region 17 with (go_at_call 34;refine hPi.mono ?_;rintro e w6 ⟨bp,cp,rfl,hcp,k6,b6⟩)
    clear hPi k5 b6
    have hmem:∀j (hj:j<(pidsJ S'.P).length),(bp,j,Value.int .i64 (pidsJ S'.P)[j])∈icells bp (pidsJ S'.P) ++ []:=fun j hj=>List.mem_append_left _ (icells_mem hj)
    have HM:Aside (∀j (hj:j<(pidsJ S'.P).length),(bp,j,Value.int .i64 (pidsJ S'.P)[j])∈icells bp (pidsJ S'.P) ++ []):=hmem
    have hL24:=pidsJ_len S'.P
    have HW:Aside (∀j (hj:j<(pidsJ S'.P).length),(Lit.int .i64 (pidsJ S'.P)[j]).wf=true):=fun j hj=>k6.wf (List.getElem_mem hj)
    clear hmem
    generalize hC9:icells bp (pidsJ S'.P) ++ []=C9 at *
    clear hC9
    generalize pidsJ S'.P=L at *
    go_wp2_with fail
    go_loopg [11,12,13,14,15] L.length (fun g s11 _ _ _ _ wx=>∃j:Nat,Aside (j+g=L.length)∧s11=.int .i64 (j:Int)∧KC w wx m kb C9 S' (i+2+1))
    case atStart=>exact ⟨0,(show 0+L.length=L.length by omega),rfl,k6⟩
    case round=>
     clear k6
     obtain ⟨j,HJ,rfl,k6⟩:=hrel
     by_cases hjl:(j:Int)<(L.length:Int)
     ·have hjL:j<L.length:=by omega
      have cj:=k6.at (HM.out j hjL)
      have hwf:=HW.out j hjL
      have hcj:(j:Int)<(cp:Int):=by omega
      generalize L[j]=p9 at *
      cases ho:S'.O p9 with
      |none=>
       have hH:=k6.has_no ho hwf
       clear ho hwf
       go_wp2_with (go_at_call 38;refine hH.mono ?_;rintro e w7 ⟨rfl,k7,b7⟩)
       go_roundg (gk-1)
       case measure=>have:=HJ.out;omega
       case rel=>exact ⟨j+1,(show j+1+(gk-1)=L.length by have:=HJ.out;omega),by go_num,k7⟩
      |some o=>
       have hH:=k6.has_yes ho
       have x1:=l5.len p9 o ho
       have x2:=l5.use p9 o ho
       have x3:=resP_lenP (msJ S' o.j)
       generalize lenP (msJ S' o.j)=A1 at *
       generalize resP (msJ S' o.j)=A2 at *
       generalize usedN (tsJ S' o.j)=A3 at *
       have y1:¬(pg:Int)<(A1:Int):=by omega
       have y2:¬(fd:Int)<(A3:Int):=by omega
       have y3:¬(A1:Int)<(A2:Int):=by omega
       clear ho hwf x1 x2 x3
       go_wp2_with (go_at_call 38;refine hH.mono ?_;rintro e w7 ⟨rfl,k7,b7⟩)
       go_roundg (gk-1)
       case measure=>have:=HJ.out;omega
       case rel=>exact ⟨j+1,(show j+1+(gk-1)=L.length by have:=HJ.out;omega),by go_num,k7⟩
     ·go_wp2_with fail
      go_roundg (g1-1)
      case measure=>have:=HI.out;omega
      case rel=>exact ⟨i+1,S',(show i+1+(g1-1)=len by have:=HI.out;omega),by go_num,k6.sub (fun y hy=>by cases hy),l5⟩
  ·clear hsc
   go_wp2_with fail
   go_ret
   exact ⟨rfl,hb⟩
end Go.Proofs.YtcfhanoekniaaaaGreatDoor

/- Processes, plainly: who is there behind an end; all but 1 are dead. -/
import Derived.Test.YtcfhanoekniaaaaGreatDoorJProg4
namespace Go.Proofs.YtcfhanoekniaaaaGreatDoor
open Go.RowKit Go.Maps Go.Sort
theorem pids_same {P P':Ps}(h:∀n,(P' n).isSome=(P n).isSome):pidsJ P'=pidsJ P:=by
 unfold pidsJ;congr 1;funext n;exact h n
theorem exit_same (P:Ps) (n k:Int):pidsJ (exitP P n k)=pidsJ P:=pids_same (fun i=>by unfold exitP;rw [Option.isSome_map])
theorem pids_one {P:Ps}(h:JOk P):∃R,pidsJ P=1 :: R:=by
 obtain ⟨p,e,_⟩:=h.one
 have hm:(1:Int)∈pidsJ P:=h.pids.2 (by rw [e];rfl)
 have hr:=pidsJ_rising P
 cases hp:pidsJ P with
 |nil=>rw [hp] at hm;cases hm
 |cons x R=>
  rw [hp] at hm hr
  rcases List.mem_cons.1 hm with e1|e1
  ·exact ⟨R,by rw [e1]⟩
  ·exfalso
   have h1:=(List.pairwise_cons.1 hr).1 1 e1
   have h2:x∈pidsJ P:=by rw [hp];exact List.mem_cons_self
   obtain ⟨q,hq⟩:=Option.isSome_iff_exists.1 (h.pids.1 h2)
   have:=h.key x q hq
   omega
def AllDead (P:Ps):Prop:=∀n p,P n=some p→n≠1→p.state=2∧p.parent=1
theorem AllDead.of {P:Ps}(h:JOk P) (hd:∀n p,P n=some p→n≠1→p.state=2):AllDead P:=fun n p e hn=>by
 refine ⟨hd n p e hn,?_⟩
 obtain ⟨q,hq,hs⟩:=runsJ_iff.1 (h.par n p e hn).1
 by_cases h1:p.parent=1
 ·exact h1
 ·have:=hd _ q hq h1;omega
theorem wait_next {P:Ps}{r:Int}{R:List Int}(h:JOk P) (hd:AllDead P) (hp:pidsJ P=1 :: r :: R):(waitO P 1).1=r∧(waitO P 1).2.2.1=0∧pidsJ (waitO P 1).2.2.2=1 :: R∧AllDead (waitO P 1).2.2.2:=by
 obtain ⟨p1,e1,s1,q1⟩:=h.one
 have hr:=pidsJ_rising P
 have hm:r∈pidsJ P:=by rw [hp];simp
 obtain ⟨q,hq⟩:=Option.isSome_iff_exists.1 (h.pids.1 hm)
 have hr1:(1:Int)<r:=by
  rw [hp] at hr
  exact (List.pairwise_cons.1 hr).1 r List.mem_cons_self
 have hdq:=hd r q hq (by omega)
 have f1:deadJ P 1 1=false:=by unfold deadJ;rw [parJ_some e1,q1];simp
 have f2:deadJ P 1 r=true:=by unfold deadJ;rw [parJ_some hq,stJ_some hq,hdq.1,hdq.2];simp
 have hf:(pidsJ P).find? (deadJ P 1)=some r:=by rw [hp,List.find?_cons,f1,List.find?_cons,f2]
 have hru:runsJ P 1=true:=runsJ_iff.2 ⟨p1,e1,s1⟩
 have hw:waitO P 1=(r,codeJ P r,0,delJ P r):=by unfold waitO;rw [if_neg (by rw [hru];simp),hf]
 rw [hw]
 refine ⟨rfl,rfl,?_,fun n p e hn=>hd n p (delJ_some e).2 hn⟩
 show pidsJ (delJ P r)=1 :: R
 refine risingJ (pidsJ_rising _) ?_ (fun x=>?_)
 ·rw [hp] at hr
  have h2:=List.pairwise_cons.1 hr
  exact List.pairwise_cons.2 ⟨fun a ha=>h2.1 a (List.mem_cons_of_mem _ ha),(List.pairwise_cons.1 h2.2).2⟩
 ·have hok:=h.del (n:=r) (by rw [stJ_some hq];exact hdq.1)
  rw [hok.pids]
  have hx:=h.pids (n:=x)
  rw [hp] at hx
  rw [hp] at hr
  have h2:=List.pairwise_cons.1 hr
  have h3:=List.pairwise_cons.1 h2.2
  by_cases e:x=r
  ·subst e
   constructor
   ·intro z;unfold delJ at z;rw [if_pos rfl] at z;cases z
   ·intro z
    rcases List.mem_cons.1 z with z|z
    ·omega
    ·have:=h3.1 x z;omega
  ·rw [delJ_ne e,←hx]
   simp [e]
end Go.Proofs.YtcfhanoekniaaaaGreatDoor

/- Processes, plainly: who is there behind an end; all but 1 are dead. -/
import Derived.Test.YtcfhanoekniaaaaGreatDoorJProg4
namespace Go.Proofs.YtcfhanoekniaaaaGreatDoor
open Go.RowKit Go.Maps Go.Sort
theorem pids_one {P:Ps}(h:JOk P):∃R,pidsJ P=1 :: R:=by
 obtain ⟨p,e,_⟩:=h.one
 have hm:(1:Int)∈pidsJ P:=h.pids.2 (by rw [e];rfl)
 have hr:=pidsJ_rising P
 cases hp:pidsJ P with
 |nil=>rw [hp] at hm;cases hm
 |cons x R=>
  rw [hp] at hm hr
  rcases List.mem_cons.1 hm with e1|e1
  ·exact ⟨R,by rw [e1]⟩
  ·exfalso
   have h1:=(List.pairwise_cons.1 hr).1 1 e1
   have h2:x∈pidsJ P:=by rw [hp];exact List.mem_cons_self
   obtain ⟨q,hq⟩:=Option.isSome_iff_exists.1 (h.pids.1 h2)
   have:=h.key x q hq
   omega
end Go.Proofs.YtcfhanoekniaaaaGreatDoor

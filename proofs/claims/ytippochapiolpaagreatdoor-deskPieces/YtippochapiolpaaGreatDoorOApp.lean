/- Candidates in a row of one's own: append. -/
import Derived.Test.YtippochapiolpaaGreatDoorOVic
import Derived.WalkLawsBesides
import Derived.Shelf.Abstract
import Derived.Deep.RegionLaw
import Derived.Lib.SliceRun
namespace Go.Proofs.YtippochapiolpaaGreatDoor
open Go.RowKit Go.Maps Go.Shelf
theorem Yp:∃i,Tryz.prog.info? 307=some i∧i.zero=some (.agg #[.int .i64 0,.int .i64 0,.int .i64 0])∧i.size=3∧i.bytes=24:=
 info_parts (P:=Tryz.prog) (e:=307) (z:=.agg #[.int .i64 0,.int .i64 0,.int .i64 0]) (size:=3) (bytes:=24) (by kernel_rfl)
theorem Cds.news {w:World}{blk off:Nat}{L:List Cd}(hq:∀j (hj:j<L.length),w.cell? ⟨blk,off+j*3,none⟩=some (.int .i64 L[j].pid)∧w.cell? ⟨blk,off+j*3+1,none⟩=some (.int .i64 L[j].res)∧w.cell? ⟨blk,off+j*3+2,none⟩=some (.int .i64 L[j].fo)) (j:Nat) (u:Value) (h:(Fv L)[j]? = some u):w.cell? ((⟨blk,off,none⟩:Addr).add j)=some u:=by
 have hj:j<L.length*3:=by have:=(List.getElem?_eq_some_iff.1 h).1;rwa [EH] at this
 have hq1:j / 3<L.length:=by omega
 obtain ⟨e0,e1,e2⟩:=hq (j / 3) hq1
 obtain ⟨f0,f1,f2⟩:=EI L (j / 3) L[j / 3] (by simp [hq1])
 rw [Addr.add_lit]
 have hm:j % 3=0∨j % 3=1∨j % 3=2:=by omega
 rcases hm with z|z|z
 ·rw [show j=j / 3*3 by omega] at h ⊢
  rw [f0] at h;rw [←h];exact e0
 ·rw [show j=j / 3*3+1 by omega] at h ⊢
  rw [f1] at h;rw [←h,show off+(j / 3*3+1)=off+j / 3*3+1 by omega];exact e1
 ·rw [show j=j / 3*3+2 by omega] at h ⊢
  rw [f2] at h;rw [←h,show off+(j / 3*3+2)=off+j / 3*3+2 by omega];exact e2
theorem pW {P:Program}{ops:Array Oper}{o:Oper}{a:Act}{w:World}{K:Act→World→Prop}{Q:Exit→Act→World→Prop}{E:Prop}
 (hg:o.guard=none) (s x:Operand) (t:TypeId) (hop:o.op=Op.call { callee:=Callee.builtin Builtin.append,args:=#[s,x],argTypes:=#[t,t] })
 (v y v':Value) (w':World) (hs:a.eval s=v) (hx:a.eval x=y) (hr:(Builtin.append_ #[t,t] o.type #[v,y]).run P w=.ok v' w') (hK:K (a.put o.dst v') w') :
 if Region.wanted o (yielded ops a.tmps)=true then Oper.wp P o a w K Q else E:=by
 have hw:Region.wanted o (yielded ops a.tmps)=true:=by simp [Region.wanted,hg]
 rw [if_pos hw]
 unfold Oper.wp
 simp [execOp,hop,resolve,invoke,builtin,hs,hx,hr,Result.andThen]
 exact hK
theorem CL.keep {w w':World}{N:Nat}{t:TypeId}{v:Value}{L:List Cd}(h:CL w N t v L) (hb:∀i,N≤i→i<w.heap.size→w'.heap[i]? = w.heap[i]?):CL w' N t v L:=by
 refine ⟨h.1,?_⟩
 rcases h.2 with z|⟨g,cap,cur,rfl,h1,h2,h3⟩
 ·exact .inl z
 ·exact .inr ⟨g,cap,cur,rfl,h1,(hb g h1 (by
   by_cases e:g<w.heap.size
   ·exact e
   ·rw [Array.getElem?_eq_none (by omega)] at h2;cases h2)).trans h2,h3⟩
theorem K9 {W:World}{N:Nat}{v:Value}{M L:List Cd}(hown:CL W N 307 v M) {blk off:Nat}(hq:Cells W blk off L) (c:Nat) (hm:M.length≤100) (hl:L.length≤100) (hN:N≤W.heap.size) :
 ∃v' w',(∀ty,ty=242→(Builtin.append_ #[242,242] ty #[v,.slice (some ⟨blk,off,none⟩) L.length c]).run Tryz.prog W=.ok v' w')∧CL w' N 307 v' (M ++ L)∧W.grownBy w' v.ownBlock:=by
 obtain ⟨i0,hi0,hz0,hz1,hz2⟩:=Yp
 obtain ⟨v',w',hr,ho,hg,_⟩:=run_append_own_at (P:=Tryz.prog) W N 242 242 307 i0 (.agg #[.int .i64 0,.int .i64 0,.int .i64 0]) 3 24 Tryz.underlying242 hi0 hz0 hz1 hz2 rfl (by decide) v M.length (Fv M) hown ⟨blk,off,none⟩ L.length c (Fv L) (EH L) (Cds.news hq) (Yq L) (by unfold maxLen;omega) (by omega) hN
 refine ⟨v',w',fun ty e=>by rw [e];exact hr,?_,hg⟩
 unfold CL
 rw [List.length_append,Yr];exact ho
end Go.Proofs.YtippochapiolpaaGreatDoor

/- Ours. -/
import Derived.Test.YtippochapiolpaaGreatDoorOVic
import Derived.WalkLawsBesides
import Derived.Shelf.Abstract
import Derived.Deep.RegionLaw
namespace Go.Proofs.YtippochapiolpaaGreatDoor
open Go.RowKit Go.Maps Go.Shelf
theorem Yg:∃i,Tryz.prog.info? 307=some i/\i.zero=some (.agg #[.int .i64 0,.int .i64 0,.int .i64 0])/\i.size=3/\i.bytes=24:=
 info_parts (P:=Tryz.prog) (e:=307) (z:=.agg #[.int .i64 0,.int .i64 0,.int .i64 0]) (size:=3) (bytes:=24) (by kernel_rfl)
theorem Cds.news{w:World}{b a:Nat}{L:List Cd}(d:∀j (f:j<L.length),w.cell? ⟨b,a+j*3,none⟩=some (.int .i64 L[j].pid)/\w.cell? ⟨b,a+j*3+1,none⟩=some (.int .i64 L[j].res)/\w.cell? ⟨b,a+j*3+2,none⟩=some (.int .i64 L[j].eX))(j:Nat)(u:Value)(h:(Fv L)[j]? = some u):w.cell? ((⟨b,a,none⟩:Addr).add j)=some u:=by
 have f:j<L.length*3:=by have:=(List.getElem?_eq_some_iff.1 h).1;rwa[EH] at this
 have c:j / 3<L.length:=by omega
 obtain⟨n,m,l⟩:=d (j / 3) c;obtain⟨k,i,g⟩:=EI L (j / 3) L[j / 3] (by simp[c]);rw[Addr.add_lit];have e:j % 3=0\/j % 3=1\/j % 3=2:=by omega
 rcases e with z|z|z
 ·rw[show j=j / 3*3 by omega] at h ⊢;rw[k] at h;rw[<-h];exact n
 ·rw[show j=j / 3*3+1 by omega] at h ⊢;rw[i] at h;rw[<-h,show a+(j / 3*3+1)=a+j / 3*3+1 by omega];exact m
 ·rw[show j=j / 3*3+2 by omega] at h ⊢;rw[g] at h;rw[<-h,show a+(j / 3*3+2)=a+j / 3*3+2 by omega];exact l
theorem pW{P:Program}{b:Array Oper}{o:Oper}{a:Act}{w:World}{K:Act->World->Prop}{Q:Exit->Act->World->Prop}{E:Prop}
 (j:o.guard=none) (s x:Operand) (t:TypeId) (c:o.op=Op.call { callee:=Callee.builtin Builtin.append,args:=#[s,x],argTypes:=#[t,t] })
 (v y e:Value) (d:World) (h:a.eval s=v) (f:a.eval x=y) (i:(Builtin.append_ #[t,t] o.type #[v,y]).run P w=.ok e d) (k:K (a.put o.dst e) d) :
 if Region.wanted o (yielded b a.tmps)=true then Oper.wp P o a w K Q else E:=by
 have g:Region.wanted o (yielded b a.tmps)=true:=by simp[Region.wanted,j]
 rw[if_pos g];unfold Oper.wp;simp[execOp,c,resolve,invoke,builtin,h,f,i,Result.andThen];exact k
theorem CL.keep{w w':World}{N:Nat}{t:TypeId}{v:Value}{L:List Cd}(h:CL w N t v L)(f:∀i,N<=i->i<w.heap.size->w'.heap[i]? = w.heap[i]?):CL w' N t v L:=by
 refine⟨h.1,?_⟩;rcases h.2 with z|⟨g,c,b,rfl,d,a,j⟩
 ·exact .inl z
 ·exact .inr ⟨g,c,b,rfl,d,(f g d (by
   by_cases e:g<w.heap.size
   ·exact e
   ·rw[Array.getElem?_eq_none (by omega)] at a;cases a)).trans a,j⟩
theorem K8{W:World}{N:Nat}{v:Value}{M L:List Cd}(f:CL W N 307 v M){b a:Nat}(o:Cells W b a L)(c:Nat)(s:M.length<=100)(t:L.length<=100)(r:N<=W.heap.size):∃g d,(∀h,h=242->(Builtin.append_ #[242,242] h #[v,.slice (some ⟨b,a,none⟩) L.length c]).run Tryz.prog W=.ok g d)/\CL d N 307 g (M++L)/\W.grownBy d v.ownBlock:=by
 obtain⟨m,l,k,j,i⟩:=Yg;obtain⟨g,d,n,p,q,_⟩:=run_append_own_at (P:=Tryz.prog) W N 242 242 307 m (.agg #[.int .i64 0,.int .i64 0,.int .i64 0]) 3 24 Tryz.underlying242 l k j i rfl (by decide) v M.length (Fv M) f ⟨b,a,none⟩ L.length c (Fv L) (EH L) (Cds.news o) (Yh L) (by unfold maxLen;omega) (by omega) r;refine⟨g,d,fun h e=>by rw[e];exact n,?_,q⟩;unfold CL;rw[List.length_append,Yi];exact p
end Go.Proofs.YtippochapiolpaaGreatDoor

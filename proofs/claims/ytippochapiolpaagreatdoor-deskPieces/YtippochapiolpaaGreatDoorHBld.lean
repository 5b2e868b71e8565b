/- Ours. -/
import Derived.Test.YtippochapiolpaaGreatDoorShelf9
import Derived.Test.YtippochapiolpaaGreatDoorShelfN
import Derived.Test.YtippochapiolpaaGreatDoorSKeys
import Derived.Test.YtippochapiolpaaGreatDoorWood
import Derived.Lib.SmallJoins
import Derived.Lib.ItoaLen
import Derived.Maps.AppendAt
set_option maxHeartbeats 2000000
set_option maxRecDepth 100000
namespace Go.Proofs.YtippochapiolpaaGreatDoor
open Go.Proofs.Tryz(prog underlying33 underlying34 underlying9)
open Go.RowKit Go.Shelf
theorem xN:(prog.info? 36).map (·.size)=some 2:=by kernel_rfl
theorem IG:liesAt prog prog.depth 36 (2 / prog.cellsOf 36) 0 36 1=true:=by kernel_rfl
theorem K4(b:Nat)(w:World)(d:w.cell? ⟨b,0,none⟩=some (wp b)):Calls prog 25 #[wp b] w fun e a=>e=.returned (.tuple #[])/\a=w:=by
 obtain⟨j,c,_⟩:=Option.map_eq_some_iff.1 xN;go_enter Tryz.func25,Tryz.ntmps25
 go_wp2;rw[Lib.run_neq_ptr_same w _ underlying33 c];go_wp2
 go_end0
 exact⟨rfl,rfl⟩
theorem IB(b:Nat)(w:World)(h:w.cell? ⟨b,0,none⟩=some (.pointer none))(a:w.shape? b=some (36,2))(g:w.frozen? ⟨b,0,none⟩=false):Calls prog 25 #[wp b] w fun e f=>e=.returned (.tuple #[])/\f=w.setCell ⟨b,0,none⟩ (wp b):=by
 obtain⟨j,d,c⟩:=Option.map_eq_some_iff.1 xN;go_enter Tryz.func25,Tryz.ntmps25
 go_wp2;rw[Lib.run_to_unsafe w ⟨b,0,none⟩ underlying33 Tryz.underlying131 d (by rw[c];decide) a (Nat.zero_lt_succ 1)];simp only[Result.andThen];rw[Oper.upon_value];go_wp2;rw[run_callFunc_extern Tryz.func74 (by kernel_rfl) (by kernel_rfl) (by kernel_rfl) (e:=Extern.AbiNoEscape.same) (by kernel_rfl)];rw[Lib.run_noEscape];simp only[Result.andThen];rw[Oper.upon_value];go_wp2;rw[Lib.run_from_unsafe w ⟨b,0,none⟩ Tryz.underlying131 underlying33 d a IG];simp only[Result.andThen];rw[Oper.upon_value];go_wp2
 go_end0
 exact⟨rfl,rfl⟩
theorem gZ{P:Program}{c:Array Oper}{b:List Oper}{o:Oper}{a:Act}{w:World}{Q:Exit->Act->World->Prop}(d:o.guard=none)(s x:Operand)(t u:TypeId)
 (l:o.op=.call { callee:=.builtin .append,args:=#[s,x],argTypes:=#[t,u] }) (v y f:Value) (e:World) (j:a.eval s=v) (i:a.eval x=y)
 (k:∀g,(Builtin.append_ #[t,u] g #[v,y]).run P w=.ok f e) (h:wpList P c Q b (a.put o.dst f) e):wpList P c Q (o::b) a w:=by
 refine wpList_plain d fun K m=>?_;unfold Oper.wp execOp;simp only[l,resolve,invoke,builtin,Sem.run_bind,Sem.run_pure,Result.andThen_ok,List.map_toArray,List.map_cons,List.map_nil,j,i,k];exact m _ _ h
def BD(n0:Nat)(w:World)(b g:Nat)(l:List UInt8):Prop:=
 ∃p v,(p=.pointer none\/p=wp b)/\n0<=b/\w.heap[b]? = some (.cells #[p,v] 36 (0,0))/\w.ownsRow n0 5 1 v l.length (Lib.byteCells l)/\v.ownBlock≠some b/\(v.ownBlock=none/\g=b\/v.ownBlock=some g)
def kD(b g:Nat):Nat->Prop:=fun i=>i=b\/i=g
section
variable {n0:Nat}{w w' w1 w2:World}{b g g':Nat}{l:List UInt8}
theorem BD.new(w:World)(a:n0<=w.heap.size):BD n0 (w.alloc (.cells #[.pointer none,.slice none 0 0] 36)) w.heap.size w.heap.size []:=
 ⟨_,_,.inl rfl,a,(by show (w.heap.push _)[w.heap.size]? = _;rw[Array.getElem?_push,if_pos rfl]),World.ownsRow_nil _ _ _ _,by simp[Value.ownBlock],.inl ⟨rfl,rfl⟩⟩
theorem BD.lt(h:BD n0 w b g l):∀i,kD b g i->i<w.heap.size:=by
 obtain⟨p,v,_,_,e,a,_,c⟩:=h;have d:b<w.heap.size:=(Array.getElem?_eq_some_iff.1 e).1;rintro i (rfl|rfl)
 ·exact d
 ·rcases c with⟨_,rfl⟩|c
  ·exact d
  ·exact(a.lt _ c).2
theorem BD.ge(h:BD n0 w b g l):∀i,kD b g i->n0<=i:=by
 obtain⟨p,v,_,d,e,a,_,c⟩:=h;rintro i (rfl|rfl)
 ·exact d
 ·rcases c with⟨_,rfl⟩|c
  ·exact d
  ·exact(a.lt _ c).1
theorem BD.kept(h:BD n0 w b g l)(m:∀i,kD b g i->w'.heap[i]? = w.heap[i]?):BD n0 w' b g l:=by
 obtain⟨p,v,o,q,r,a,f,c⟩:=h;refine⟨p,v,o,q,(m b (.inl rfl)).trans r,⟨a.1,?_⟩,f,c⟩;rcases a.2 with t|⟨x,k,j,e,s,n,d⟩
 ·exact .inl t
 ·refine .inr ⟨x,k,j,e,s,(m x (.inr ?_)).trans n,d⟩;subst e;rcases c with⟨c,_⟩|c
  ·simp[Value.ownBlock] at c
  ·simpa[Value.ownBlock] using c
theorem BD.below(h:BD n0 w b g l)(c:Below w.heap.size w w'):BD n0 w' b g l:=h.kept fun i a=>c.block i (h.lt i a)
theorem BD.is(h:BD n0 w b g l):Lib.IsBuilder 36 5 n0 b (Lib.byteCells l) w:=by
 obtain⟨p,v,f,d,e,a,c,_⟩:=h;rw[<-Lib.byteCells_length l] at a;rcases f with rfl|rfl
 ·exact .inl ⟨d,v,e,a,c⟩
 ·exact .inr ⟨d,v,e,a,c⟩
theorem KC{v:Value}(h:w.grownBy w' v.ownBlock)(a:v.ownBlock=none/\g=b\/v.ownBlock=some g):Wt (kD b g) w w':=
 ⟨h.os,h.tape,h.output,h.size,fun i c d=>h.block i c fun e=>d (by
  rcases a with⟨a,_⟩|a
  ·rw[a] at e;cases e
  ·rw[a] at e;exact .inr (Option.some.inj e))⟩
theorem BD.check(h:BD n0 w b g l):Calls prog 25 #[wp b] w fun e c=>e=.returned (.tuple #[])/\BD n0 c b g l/\Stp w c (kD b g) (kD b g)/\c.cell? ⟨b,0,none⟩=some (wp b):=by
 have B:=h;obtain⟨p,v,r,s,j,a,f,t⟩:=B;have k:w.cell? ⟨b,0,none⟩=some p:=by rw[Lib.cell_of_heap j];rfl
 rcases r with rfl|rfl
 ·refine(IB b w k (by simp[World.shape?,j]) (Lib.frozen_of_heap j 0)).mono ?_;rintro e c ⟨rfl,rfl⟩;refine⟨rfl,⟨wp b,v,.inr rfl,s,?_,?_,f,t⟩,⟨⟨rfl,rfl,rfl,by simp,fun i o y=>Below.heap_setCell _ _ _ _ (fun e=>y (.inl e))⟩,fun i o=>.inl o⟩,World.cell?_setCell_same' _ _ _ (by rw[k];rfl)⟩
  ·simp[World.setCell,Array.getElem?_modify,j]
  ·exact⟨a.1,by
    rcases a.2 with A|⟨x,n,m,e,u,q,d⟩
    ·exact .inl A
    ·exact .inr ⟨x,n,m,e,u,(Below.heap_setCell _ _ _ _ (fun z=>f (by subst e;rw[show x=b from z];rfl))).trans q,d⟩⟩
 ·refine(K4 b w k).mono ?_;rintro e c ⟨rfl,rfl⟩;exact⟨rfl,h,.refl _ _,k⟩
theorem Qp{v k:Value}{s:ByteArray}(a:w.ownsRow n0 5 1 v l.length (Lib.byteCells l))(r:l.length+s.size<=1000000000)
 (j:(Builtin.append_ #[34,9] 34 #[v,.string s]).run prog w=.ok k w'):k.ownBlock=none\/(∃x,k.ownBlock=some x/\(v.ownBlock=some x\/w.heap.size<=x)):=by
 obtain⟨m,o,h,b,f⟩:=info_parts (P:=prog) (e:=5) (z:=.int .u8 0) (size:=1) (bytes:=1) (by kernel_rfl);rcases a.2 with⟨rfl,B⟩|⟨x,d,q,rfl,F,u,y,A,p,n⟩
 ·have C:l=[]:=List.eq_nil_of_length_eq_zero B;subst C;obtain⟨E,D,i,t,_⟩:=Lib.run_append_own_string (P:=prog) w w.heap.size 34 9 34 5 m underlying34 underlying9 o h b f (.slice none 0 0) 0 [] (World.ownsRow_nil _ _ _ _) s (by unfold maxLen;simp at r;omega) (by simp at r;omega) (Nat.le_refl _);rw[show ([]:List UInt8).length=0 from rfl] at *;rw[j] at i;cases i
  cases hv:k.ownBlock with
  |none=>exact .inl rfl
  |some x=>exact .inr ⟨x,rfl,.inr (t.lt x hv).1⟩
 ·right;by_cases c:l.length+s.size<=d
  ·rw[Lib.run_append_room_string w 34 9 34 5 m underlying34 underlying9 o b x l.length d q u s c (by rw[p];omega)] at j;cases j
   exact⟨x,rfl,.inl rfl⟩
  ·rw[Lib.run_append_grow_string w 34 9 34 5 m (.int .u8 0) underlying34 underlying9 o h ⟨x,0,none⟩ l.length d (Lib.byteCells l) (by rw[b,Lib.byteCells_length];omega) (a.cells (g:=x) rfl) s (by omega) (by omega) (by rw[f];exact growslice_fits (by omega) (by omega))] at j;cases j
   exact⟨_,rfl,.inr (Nat.le_refl _)⟩
def YF(b:Nat)(v:Value):Nat:=v.ownBlock.getD b
theorem aaX(b:Nat)(v:Value):v.ownBlock=none/\YF b v=b\/v.ownBlock=some (YF b v):=by
 unfold YF;cases v.ownBlock<;>simp
theorem BD.put{p v c:Value}(a:w.ownsRow n0 5 1 c l.length (Lib.byteCells l))(f:w.heap[b]? = some (.cells #[p,v] 36 (0,0)))(h:n0<=b)(g:p=.pointer none\/p=wp b):BD n0 (w.setCell ⟨b,1,none⟩ c) b (YF b c) l:=by
 have d:=Lib.ownBlock_ne a f (by decide);refine⟨p,c,g,h,?_,?_,d,aaX b c⟩
 ·simp[World.setCell,Array.getElem?_modify,f]
 ·exact a.kept (row:=some b) ⟨rfl,rfl,rfl,by simp[World.setCell],fun k _ i=>Below.heap_setCell _ _ _ _ (fun e=>i (by simp[e]))⟩ (Or.inr d)
theorem BD.step{v f:Value}(a:w1.grownBy w2 v.ownBlock)(d:v.ownBlock=none/\g=b\/v.ownBlock=some g)(h:f.ownBlock=none\/(∃x,f.ownBlock=some x/\(v.ownBlock=some x\/w1.heap.size<=x))):Stp w1 (w2.setCell ⟨b,1,none⟩ f) (kD b g) (kD b (YF b f)):=by
 refine⟨(KC a d).trans ⟨rfl,rfl,rfl,by simp,fun i k l=>Below.heap_setCell _ _ _ _ (fun e=>l (.inl e))⟩,fun i k=>?_⟩;rcases k with rfl|rfl
 ·exact .inl (.inl rfl)
 ·rcases h with m|⟨x,j,c|c⟩
  ·exact .inl (.inl (by unfold YF;rw[m];rfl))
  ·refine .inl (.inr ?_);rcases d with⟨d,_⟩|d
   ·rw[d] at c;cases c
   ·rw[d] at c;unfold YF;rw[j];exact(Option.some.inj c).symm
  ·exact .inr (by unfold YF;rw[j];exact c)
theorem BD.write(h:BD n0 w b g l)(s:List UInt8)(W:l.length+s.length<=1000000000):Calls prog 9 #[wp b,tx s] w fun e G=>∃u g',e=.returned (.tuple #[u,.nilIface])/\BD n0 G b g' (l++s)/\Stp w G (kD b g) (kD b g'):=by
 obtain⟨L,O,t,r,q⟩:=info_parts (P:=prog) (e:=5) (z:=.int .u8 0) (size:=1) (bytes:=1) (by kernel_rfl);have M:(⟨s.toArray⟩:ByteArray).size=s.length:=by simp[ByteArray.size]
 have D:=h.ge b (.inl rfl);have R:=h.lt b (.inl rfl);go_enter Tryz.func9,Tryz.ntmps9
 go_wp2_with fail
 refine h.check.mono ?_;rintro e n ⟨rfl,I,m,c0⟩;have E:=I;obtain⟨p,v,N,V,H,j,C,Q⟩:=E;have c1:n.cell? ⟨b,1,none⟩=some v:=by rw[Lib.cell_of_heap H];rfl
 obtain⟨J,k,c,a,d,_⟩:=Lib.run_append_own_string (P:=prog) n n0 34 9 34 5 L underlying34 underlying9 O t r q v l.length (Lib.byteCells l) j ⟨s.toArray⟩ (by unfold maxLen;omega) (by omega) (by have:=m.wt.size;omega);have y:=Qp j (by omega) c;rw[M] at a;have S:Lib.strCells ⟨s.toArray⟩=Lib.byteCells s:=rfl;rw[S,<-Lib.byteCells_append,<-List.length_append] at a;have U:=I.lt b (.inl rfl);have f:k.heap[b]? = some (.cells #[p,v] 36 (0,0)):=(d.block b U (fun e=>C e.symm)).trans H;have Z:k.cell? ⟨b,0,none⟩=some p:=by rw[Lib.cell_of_heap f];rfl
 have Y:k.cell? ⟨b,1,none⟩=some v:=by rw[Lib.cell_of_heap f];rfl
 have X:k.frozen? ⟨b,1,none⟩=false:=Lib.frozen_of_heap f 1;obtain⟨F,o,i,rfl⟩:∃F o i,J=.slice F o i:=by
  rcases a.2 with⟨A,_⟩|⟨x,i,T,A,_⟩
  ·exact⟨_,_,_,A⟩
  ·exact⟨_,_,_,A⟩
 have B:∀K,(Builtin.append_ #[34,9] K #[v,tx s]).run prog n=.ok (.slice F o i) k:=fun _=>c;clear c;go_wp2_with (at_builtin;refine gZ rfl _ _ 34 9 rfl _ _ _ k rfl rfl B ?_)
 go_ret2;refine⟨_,_,rfl,BD.put a f D N,m.trans (BD.step d Q y)⟩
theorem Dh(w:World)(v:Value)(t:TypeId):∀j u,[v][j]? = some u->(w.alloc (.cells #[v] t)).cell? ((⟨w.heap.size,0,none⟩:Addr).add j)=some u:=by
 intro j u a
 match j,a with
 |0,a=>simp at a;subst a;simp[Addr.add]
theorem BD.BQ(h:BD n0 w b g l)(c:UInt8)(W:l.length+1<=1000000000):Calls prog 11 #[wp b,.int .u8 (c.toNat:Int)] w fun e K=>∃g',e=.returned .nilIface/\BD n0 K b g' (l++[c])/\Stp w K (kD b g) (kD b g'):=by
 obtain⟨N,Q,y,u,t⟩:=info_parts (P:=prog) (e:=5) (z:=.int .u8 0) (size:=1) (bytes:=1) (by kernel_rfl);have D:=h.ge b (.inl rfl);have S:=h.lt b (.inl rfl);go_enter Tryz.func11,Tryz.ntmps11
 go_wp2_with fail
 refine h.check.mono ?_;rintro e f ⟨rfl,G,o,c0⟩;have F:=G;obtain⟨p,v,O,V,L,q,C,R⟩:=F;have c1:f.cell? ⟨b,1,none⟩=some v:=by rw[Lib.cell_of_heap L];rfl
 have U:=G.lt b (.inl rfl);have H:Below f.heap.size f (f.alloc (.cells #[.int .u8 (c.toNat:Int)] 5)):=(Below.refl _ _).alloc (Nat.le_refl _) _;have X:=G.below H;have E:(f.alloc (.cells #[.int .u8 (c.toNat:Int)] 5)).heap[b]? = some (.cells #[p,v] 36 (0,0)):=(H.block b U).trans L;obtain⟨r,m,k,a,d,_,A⟩:=run_append_own_at (P:=prog) (f.alloc (.cells #[.int .u8 (c.toNat:Int)] 5)) n0 34 34 5 N (.int .u8 0) 1 1 underlying34 Q y u t rfl (by decide) v l.length (Lib.byteCells l) (q.alloc _) ⟨f.heap.size,0,none⟩ 1 1 [.int .u8 (c.toNat:Int)] rfl (Dh _ _ _) (by simp[Value.oneCell']) (by unfold maxLen;omega) (by omega) (by have:=o.wt.size;simp;omega);rw[show Lib.byteCells l++[Value.int .u8 (c.toNat:Int)]=Lib.byteCells (l++[c]) by simp[Lib.byteCells],show l.length+1=(l++[c]).length by simp] at a;have i:m.heap[b]? = some (.cells #[p,v] 36 (0,0)):=(d.block b (by simp;omega) (fun e=>C e.symm)).trans E;have d0:m.cell? ⟨b,0,none⟩=some p:=by rw[Lib.cell_of_heap i];rfl
 have Z:m.cell? ⟨b,1,none⟩=some v:=by rw[Lib.cell_of_heap i];rfl
 have Y:m.frozen? ⟨b,1,none⟩=false:=Lib.frozen_of_heap i 1;have J:r.ownBlock=none\/(∃x,r.ownBlock=some x/\(v.ownBlock=some x\/(f.alloc (.cells #[.int .u8 (c.toNat:Int)] 5)).heap.size<=x)):=by
  rcases A with e|e
  ·cases n:v.ownBlock with
   |none=>left;rw[e,n]
   |some x=>right;exact⟨x,by rw[e,n],.inl rfl⟩
  ·right;exact⟨_,e,.inr (Nat.le_refl _)⟩
 obtain⟨I,s,j,rfl⟩:∃I s j,r=.slice I s j:=by
  rcases a.2 with⟨n,_⟩|⟨x,j,T,n,_⟩
  ·exact⟨_,_,_,n⟩
  ·exact⟨_,_,_,n⟩
 have B:∀M,(Builtin.append_ #[34,34] M #[v,.slice (some ⟨f.heap.size,0,none⟩) 1 1]).run prog (f.alloc (.cells #[.int .u8 (c.toNat:Int)] 5))=.ok (.slice I s j) m:=fun _=>k;clear k;go_wp2_with (at_builtin;refine gZ rfl _ _ 34 34 rfl _ _ _ m rfl rfl B ?_)
 go_ret;exact⟨_,rfl,BD.put a i D O,(o.trans (.below H)).trans (BD.step d R J)⟩
theorem Sb:Builder.Extra prog Tryz.stringL_ren where
 sizeBuilder:=by kernel_rfl
 liesBuilder:=by kernel_rfl
 t5:=Tryz.underlying5
 a5:=Tryz.isAgg5
 z5:=Tryz.sizeOf5
 v5:=Tryz.zeroValue5
 infoByte:=by kernel_rfl
 cellsByte:=by kernel_rfl
 sizeByte:=by kernel_rfl
 neB5:=by decide
theorem BD.text(h:BD n0 w b g l)(c:n0<=w.heap.size):Calls prog 12 #[wp b] w fun e a=>e=.returned (tx l)/\Below n0 w a:=
 Any.Builder_String_any Tryz.stringL Sb n0 b l w h.is c
end
theorem Stp.newer{n:Nat}{w w1 w2:World}{O O':Nat->Prop}(h:Below n w w1)(st:Stp w1 w2 O O')(c:∀i,O i->n<=i)(b:n<=w1.heap.size):Below n w w2:=
 ⟨st.wt.os.trans h.os,st.wt.tape.trans h.tape,st.wt.output.trans h.output,Nat.le_trans h.size st.wt.size,fun i a=>(st.wt.block i (Nat.lt_of_lt_of_le a b) (fun z=>by have:=c i z;omega)).trans (h.block i a)⟩
def Eh:String:=((Rows.deskPiecesRow.laid.drop 2).map (·.1)).headD ""
theorem rD:prog.globalNamed Eh=some 1:=by kernel_rfl
def Pow(w:World):Prop:=Lib.TabIs prog w Eh .u64 Lib.pow10Tab
theorem Pow.below{w w':World}(h:Pow w)(a:Below w.heap.size w w'):Pow w':=Go.Joins.tab_stays rD h a (Nat.le_refl _)
theorem uZ(n:Int)(g:-9223372036854775808<=n)(f:n<=9223372036854775807)(w:World)(h:Pow w):Calls prog 13 #[.int .i64 n] w fun e a=>e=.returned (tx (Lib.itoa n))/\Below w.heap.size w a:=by
 refine(Any.strconv_Itoa Tryz.itoaML n g f w h).mono ?_;rintro e a ⟨d,k,b,rfl⟩;refine⟨d,rfl,rfl,rfl,by simp[Sort.grow],fun i c=>?_⟩;show (w.heap++b)[i]? = w.heap[i]?;rw[Array.getElem?_append_left c]
end Go.Proofs.YtippochapiolpaaGreatDoor

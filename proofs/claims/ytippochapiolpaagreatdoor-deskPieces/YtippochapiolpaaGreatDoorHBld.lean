/- strings.Builder as the desk has it: what is written, which blocks it touches; strconv's texts of numbers, by the library's contracts. -/
import Derived.Test.YtippochapiolpaaGreatDoorShelf9
import Derived.Test.YtippochapiolpaaGreatDoorShelfN
import Derived.Test.YtippochapiolpaaGreatDoorSKeys
import Derived.Test.YtippochapiolpaaGreatDoorWood
import Derived.Test.YtippochapiolpaaGreatDoorRows
import Derived.Shelf.Strings.Builder1
import Derived.Shelf.Strconv.Itoa4
import Derived.Lib.SmallJoins
import Derived.Lib.ItoaLen
import Derived.Maps.AppendAt
set_option maxHeartbeats 2000000
set_option maxRecDepth 100000
namespace Go.Proofs.YtippochapiolpaaGreatDoor
open Go.RowKit Go.Shelf
theorem xN:(Tryz.prog.info? 36).map (·.size)=some 2:=by kernel_rfl
theorem IG:liesAt Tryz.prog Tryz.prog.depth 36 (2 / Tryz.prog.cellsOf 36) 0 36 1=true:=by kernel_rfl
theorem K5 (b:Nat) (w:World) (h0:w.cell? ⟨b,0,none⟩=some (wp b)) :
 Calls Tryz.prog 25 #[wp b] w fun e w'=>e=.returned (.tuple #[])∧w'=w:=by
 obtain ⟨j,hj,_⟩:=Option.map_eq_some_iff.1 xN
 go_enter Tryz.func25,Tryz.ntmps25
 go_wp2
 rw [Lib.run_neq_ptr_same w _ Tryz.underlying33 hj]
 go_wp2
 go_end0
 exact ⟨rfl,rfl⟩
theorem IB (b:Nat) (w:World) (h0:w.cell? ⟨b,0,none⟩=some (.pointer none)) (hsh:w.shape? b=some (36,2)) (hfz:w.frozen? ⟨b,0,none⟩=false) :
 Calls Tryz.prog 25 #[wp b] w fun e w'=>e=.returned (.tuple #[])∧w'=w.setCell ⟨b,0,none⟩ (wp b):=by
 obtain ⟨j,hj,hjs⟩:=Option.map_eq_some_iff.1 xN
 go_enter Tryz.func25,Tryz.ntmps25
 go_wp2
 rw [Lib.run_to_unsafe w ⟨b,0,none⟩ Tryz.underlying33 Tryz.underlying131 hj (by rw [hjs];decide) hsh (Nat.zero_lt_succ 1)]
 simp only [Result.andThen]
 rw [Oper.upon_value]
 go_wp2
 rw [run_callFunc_extern Tryz.func74 (by kernel_rfl) (by kernel_rfl) (by kernel_rfl) (e:=Extern.AbiNoEscape.same) (by kernel_rfl)]
 rw [Lib.run_noEscape]
 simp only [Result.andThen]
 rw [Oper.upon_value]
 go_wp2
 rw [Lib.run_from_unsafe w ⟨b,0,none⟩ Tryz.underlying131 Tryz.underlying33 hj hsh IG]
 simp only [Result.andThen]
 rw [Oper.upon_value]
 go_wp2
 go_end0
 exact ⟨rfl,rfl⟩
theorem ib {P:Program}{ops:Array Oper}{rest:List Oper}{o:Oper}{a:Act}{w:World}{Q:Exit→Act→World→Prop}(hgd:o.guard=none) (s x:Operand) (t u:TypeId)
 (ho:o.op=.call { callee:=.builtin .append,args:=#[s,x],argTypes:=#[t,u] }) (v y v':Value) (w':World) (hs:a.eval s=v) (hx:a.eval x=y)
 (hr:∀ty,(Builtin.append_ #[t,u] ty #[v,y]).run P w=.ok v' w') (h:wpList P ops Q rest (a.put o.dst v') w'):wpList P ops Q (o :: rest) a w:=by
 refine wpList_plain hgd fun K hK=>?_
 unfold Oper.wp execOp
 simp only [ho,resolve,invoke,builtin,Sem.run_bind,Sem.run_pure,Result.andThen_ok,List.map_toArray,List.map_cons,List.map_nil,hs,hx,hr]
 exact hK _ _ h
def BD (n0:Nat) (w:World) (b g:Nat) (l:List UInt8):Prop:=
 ∃p v,(p=.pointer none∨p=wp b)∧n0≤b∧w.heap[b]? = some (.cells #[p,v] 36 (0,0))∧w.ownsRow n0 5 1 v l.length (Lib.byteCells l)∧v.ownBlock≠some b∧(v.ownBlock=none∧g=b∨v.ownBlock=some g)
def kD (b g:Nat):Nat→Prop:=fun i=>i=b∨i=g
section
variable {n0:Nat}{w w' w1 w2:World}{b g g':Nat}{l:List UInt8}
theorem BD.new (w:World) (hn:n0≤w.heap.size):BD n0 (w.alloc (.cells #[.pointer none,.slice none 0 0] 36)) w.heap.size w.heap.size []:=
 ⟨_,_,.inl rfl,hn,(by show (w.heap.push _)[w.heap.size]? = _;rw [Array.getElem?_push,if_pos rfl]),World.ownsRow_nil _ _ _ _,by simp [Value.ownBlock],.inl ⟨rfl,rfl⟩⟩
theorem BD.lt (h:BD n0 w b g l):∀i,kD b g i→i<w.heap.size:=by
 obtain ⟨p,v,_,_,hb,hown,_,hg⟩:=h
 have h1:b<w.heap.size:=(Array.getElem?_eq_some_iff.1 hb).1
 rintro i (rfl|rfl)
 ·exact h1
 ·rcases hg with ⟨_,rfl⟩|hg
  ·exact h1
  ·exact (hown.lt _ hg).2
theorem BD.ge (h:BD n0 w b g l):∀i,kD b g i→n0≤i:=by
 obtain ⟨p,v,_,hn,hb,hown,_,hg⟩:=h
 rintro i (rfl|rfl)
 ·exact hn
 ·rcases hg with ⟨_,rfl⟩|hg
  ·exact hn
  ·exact (hown.lt _ hg).1
theorem BD.kept (h:BD n0 w b g l) (hk:∀i,kD b g i→w'.heap[i]? = w.heap[i]?):BD n0 w' b g l:=by
 obtain ⟨p,v,hp,hn,hb,hown,hne,hg⟩:=h
 refine ⟨p,v,hp,hn,(hk b (.inl rfl)).trans hb,⟨hown.1,?_⟩,hne,hg⟩
 rcases hown.2 with h0|⟨x,cap,cur,e,hN,hx,rest⟩
 ·exact .inl h0
 ·refine .inr ⟨x,cap,cur,e,hN,(hk x (.inr ?_)).trans hx,rest⟩
  subst e
  rcases hg with ⟨hg,_⟩|hg
  ·simp [Value.ownBlock] at hg
  ·simpa [Value.ownBlock] using hg
theorem BD.below (h:BD n0 w b g l) (hb:Below w.heap.size w w'):BD n0 w' b g l:=h.kept fun i hi=>hb.block i (h.lt i hi)
theorem BD.is (h:BD n0 w b g l):Lib.IsBuilder 36 5 n0 b (Lib.byteCells l) w:=by
 obtain ⟨p,v,hp,hn,hb,hown,hne,_⟩:=h
 rw [←Lib.byteCells_length l] at hown
 rcases hp with rfl|rfl
 ·exact .inl ⟨hn,v,hb,hown,hne⟩
 ·exact .inr ⟨hn,v,hb,hown,hne⟩
theorem KC {v:Value}(h:w.grownBy w' v.ownBlock) (hg:v.ownBlock=none∧g=b∨v.ownBlock=some g):Wt (kD b g) w w':=
 ⟨h.os,h.tape,h.output,h.size,fun i hi hA=>h.block i hi fun e=>hA (by
  rcases hg with ⟨hg,_⟩|hg
  ·rw [hg] at e;cases e
  ·rw [hg] at e;exact .inr (Option.some.inj e))⟩
theorem BD.check (h:BD n0 w b g l):Calls Tryz.prog 25 #[wp b] w fun e w'=>e=.returned (.tuple #[])∧BD n0 w' b g l∧Stp w w' (kD b g) (kD b g)∧w'.cell? ⟨b,0,none⟩=some (wp b):=by
 have h':=h
 obtain ⟨p,v,hp,hn,hb,hown,hne,hg⟩:=h'
 have c0:w.cell? ⟨b,0,none⟩=some p:=by rw [Lib.cell_of_heap hb];rfl
 rcases hp with rfl|rfl
 ·refine (IB b w c0 (by simp [World.shape?,hb]) (Lib.frozen_of_heap hb 0)).mono ?_
  rintro e w' ⟨rfl,rfl⟩
  refine ⟨rfl,⟨wp b,v,.inr rfl,hn,?_,?_,hne,hg⟩,⟨⟨rfl,rfl,rfl,by simp,fun i hi hA=>Below.heap_setCell _ _ _ _ (fun e=>hA (.inl e))⟩,fun i hi=>.inl hi⟩,World.cell?_setCell_same' _ _ _ (by rw [c0];rfl)⟩
  ·simp [World.setCell,Array.getElem?_modify,hb]
  ·exact ⟨hown.1,by
    rcases hown.2 with h0|⟨x,cap,cur,e,hN,hx,rest⟩
    ·exact .inl h0
    ·exact .inr ⟨x,cap,cur,e,hN,(Below.heap_setCell _ _ _ _ (fun z=>hne (by subst e;rw [show x=b from z];rfl))).trans hx,rest⟩⟩
 ·refine (K5 b w c0).mono ?_
  rintro e w' ⟨rfl,rfl⟩
  exact ⟨rfl,h,.refl _ _,c0⟩
theorem Qr {v v':Value}{s:ByteArray}(hown:w.ownsRow n0 5 1 v l.length (Lib.byteCells l)) (hl:l.length+s.size≤1000000000)
 (hr:(Builtin.append_ #[34,9] 34 #[v,.string s]).run Tryz.prog w=.ok v' w'):v'.ownBlock=none∨(∃x,v'.ownBlock=some x∧(v.ownBlock=some x∨w.heap.size≤x)):=by
 obtain ⟨i0,hi,hz0,hz1,hz2⟩:=info_parts (P:=Tryz.prog) (e:=5) (z:=.int .u8 0) (size:=1) (bytes:=1) (by kernel_rfl)
 rcases hown.2 with ⟨rfl,h0⟩|⟨x,cap,cur,rfl,hN,hx,hnc,hcm,hcs,htake⟩
 ·have e0:l=[]:=List.eq_nil_of_length_eq_zero h0
  subst e0
  obtain ⟨v2,w2,hr2,qa,_⟩:=Lib.run_append_own_string (P:=Tryz.prog) w w.heap.size 34 9 34 5 i0 Tryz.underlying34 Tryz.underlying9 hi hz0 hz1 hz2 (.slice none 0 0) 0 [] (World.ownsRow_nil _ _ _ _) s (by unfold maxLen;simp at hl;omega) (by simp at hl;omega) (Nat.le_refl _)
  rw [show ([]:List UInt8).length=0 from rfl] at *
  rw [hr] at hr2
  cases hr2
  cases hv:v'.ownBlock with
  |none=>exact .inl rfl
  |some x=>exact .inr ⟨x,rfl,.inr (qa.lt x hv).1⟩
 ·right
  by_cases hroom:l.length+s.size≤cap
  ·rw [Lib.run_append_room_string w 34 9 34 5 i0 Tryz.underlying34 Tryz.underlying9 hi hz1 x l.length cap cur hx s hroom (by rw [hcs];omega)] at hr
   cases hr
   exact ⟨x,rfl,.inl rfl⟩
  ·rw [Lib.run_append_grow_string w 34 9 34 5 i0 (.int .u8 0) Tryz.underlying34 Tryz.underlying9 hi hz0 ⟨x,0,none⟩ l.length cap (Lib.byteCells l) (by rw [hz1,Lib.byteCells_length];omega) (hown.cells (g:=x) rfl) s (by omega) (by omega) (by rw [hz2];exact growslice_fits (by omega) (by omega))] at hr
   cases hr
   exact ⟨_,rfl,.inr (Nat.le_refl _)⟩
def YO (b:Nat) (v:Value):Nat:=v.ownBlock.getD b
theorem aa5 (b:Nat) (v:Value):v.ownBlock=none∧YO b v=b∨v.ownBlock=some (YO b v):=by
 unfold YO
 cases v.ownBlock<;>simp
theorem BD.put {p v v':Value}(hown:w.ownsRow n0 5 1 v' l.length (Lib.byteCells l)) (hb:w.heap[b]? = some (.cells #[p,v] 36 (0,0))) (hn:n0≤b) (hp:p=.pointer none∨p=wp b):BD n0 (w.setCell ⟨b,1,none⟩ v') b (YO b v') l:=by
 have hne:=Lib.ownBlock_ne hown hb (by decide)
 refine ⟨p,v',hp,hn,?_,?_,hne,aa5 b v'⟩
 ·simp [World.setCell,Array.getElem?_modify,hb]
 ·exact hown.kept (row:=some b) ⟨rfl,rfl,rfl,by simp [World.setCell],fun k _ hk=>Below.heap_setCell _ _ _ _ (fun e=>hk (by simp [e]))⟩ (Or.inr hne)
theorem BD.step {v v':Value}(hgrow:w1.grownBy w2 v.ownBlock) (hg:v.ownBlock=none∧g=b∨v.ownBlock=some g) (hwh:v'.ownBlock=none∨(∃x,v'.ownBlock=some x∧(v.ownBlock=some x∨w1.heap.size≤x))):Stp w1 (w2.setCell ⟨b,1,none⟩ v') (kD b g) (kD b (YO b v')):=by
 refine ⟨(KC hgrow hg).trans ⟨rfl,rfl,rfl,by simp,fun i hi hA=>Below.heap_setCell _ _ _ _ (fun e=>hA (.inl e))⟩,fun i hi=>?_⟩
 rcases hi with rfl|rfl
 ·exact .inl (.inl rfl)
 ·rcases hwh with h0|⟨x,hx,hv|hv⟩
  ·exact .inl (.inl (by unfold YO;rw [h0];rfl))
  ·refine .inl (.inr ?_)
   rcases hg with ⟨hg,_⟩|hg
   ·rw [hg] at hv;cases hv
   ·rw [hg] at hv;unfold YO;rw [hx];exact (Option.some.inj hv).symm
  ·exact .inr (by unfold YO;rw [hx];exact hv)
theorem BD.write (h:BD n0 w b g l) (s:List UInt8) (hl:l.length+s.length≤1000000000) :
 Calls Tryz.prog 9 #[wp b,tx s] w fun e w'=>∃u g',e=.returned (.tuple #[u,.nilIface])∧BD n0 w' b g' (l ++ s)∧Stp w w' (kD b g) (kD b g'):=by
 obtain ⟨i0,hi,hz0,hz1,hz2⟩:=info_parts (P:=Tryz.prog) (e:=5) (z:=.int .u8 0) (size:=1) (bytes:=1) (by kernel_rfl)
 have hs:(⟨s.toArray⟩:ByteArray).size=s.length:=by simp [ByteArray.size]
 have hnb:=h.ge b (.inl rfl)
 have hbl:=h.lt b (.inl rfl)
 go_enter Tryz.func9,Tryz.ntmps9
 go_wp2_with fail
 refine h.check.mono ?_
 rintro e w1 ⟨rfl,h1,st1,c0⟩
 have h1':=h1
 obtain ⟨p,v,hp,hn,hb,hown,hne,hg⟩:=h1'
 have c1:w1.cell? ⟨b,1,none⟩=some v:=by rw [Lib.cell_of_heap hb];rfl
 obtain ⟨v',w2,hrun,hown',hgrow,_⟩:=Lib.run_append_own_string (P:=Tryz.prog) w1 n0 34 9 34 5 i0 Tryz.underlying34 Tryz.underlying9 hi hz0 hz1 hz2 v l.length (Lib.byteCells l) hown ⟨s.toArray⟩ (by unfold maxLen;omega) (by omega) (by have:=st1.wt.size;omega)
 have hwh:=Qr hown (by omega) hrun
 rw [hs] at hown'
 have e0:Lib.strCells ⟨s.toArray⟩=Lib.byteCells s:=rfl
 rw [e0,←Lib.byteCells_append,←List.length_append] at hown'
 have ZV:=h1.lt b (.inl rfl)
 have hb2:w2.heap[b]? = some (.cells #[p,v] 36 (0,0)):=(hgrow.block b ZV (fun e=>hne e.symm)).trans hb
 have d0:w2.cell? ⟨b,0,none⟩=some p:=by rw [Lib.cell_of_heap hb2];rfl
 have d1:w2.cell? ⟨b,1,none⟩=some v:=by rw [Lib.cell_of_heap hb2];rfl
 have f1:w2.frozen? ⟨b,1,none⟩=false:=Lib.frozen_of_heap hb2 1
 obtain ⟨ao,n',cap,rfl⟩:∃ao n' cap,v'=.slice ao n' cap:=by
  rcases hown'.2 with ⟨hv,_⟩|⟨x,cap,cur,hv,_⟩
  ·exact ⟨_,_,_,hv⟩
  ·exact ⟨_,_,_,hv⟩
 have hr9:∀ty,(Builtin.append_ #[34,9] ty #[v,tx s]).run Tryz.prog w1=.ok (.slice ao n' cap) w2:=fun _=>hrun
 clear hrun
 go_wp2_with (at_builtin;refine ib rfl _ _ 34 9 rfl _ _ _ w2 rfl rfl hr9 ?_)
 go_ret2
 refine ⟨_,_,rfl,BD.put hown' hb2 hnb hp,st1.trans (BD.step hgrow hg hwh)⟩
theorem Dh (w:World) (v:Value) (t:TypeId):∀j u,[v][j]? = some u→(w.alloc (.cells #[v] t)).cell? ((⟨w.heap.size,0,none⟩:Addr).add j)=some u:=by
 intro j u hj
 match j,hj with
 |0,hj=>simp at hj;subst hj;simp [Addr.add]
theorem BD.BQ (h:BD n0 w b g l) (c:UInt8) (hl:l.length+1≤1000000000) :
 Calls Tryz.prog 11 #[wp b,.int .u8 (c.toNat:Int)] w fun e w'=>∃g',e=.returned .nilIface∧BD n0 w' b g' (l ++ [c])∧Stp w w' (kD b g) (kD b g'):=by
 obtain ⟨i0,hi,hz0,hz1,hz2⟩:=info_parts (P:=Tryz.prog) (e:=5) (z:=.int .u8 0) (size:=1) (bytes:=1) (by kernel_rfl)
 have hnb:=h.ge b (.inl rfl)
 have hbl:=h.lt b (.inl rfl)
 go_enter Tryz.func11,Tryz.ntmps11
 go_wp2_with fail
 refine h.check.mono ?_
 rintro e w1 ⟨rfl,h1,st1,c0⟩
 have h1':=h1
 obtain ⟨p,v,hp,hn,hb,hown,hne,hg⟩:=h1'
 have c1:w1.cell? ⟨b,1,none⟩=some v:=by rw [Lib.cell_of_heap hb];rfl
 have ZV:=h1.lt b (.inl rfl)
 have bA:Below w1.heap.size w1 (w1.alloc (.cells #[.int .u8 (c.toNat:Int)] 5)):=(Below.refl _ _).alloc (Nat.le_refl _) _
 have hA:=h1.below bA
 have hbA:(w1.alloc (.cells #[.int .u8 (c.toNat:Int)] 5)).heap[b]? = some (.cells #[p,v] 36 (0,0)):=(bA.block b ZV).trans hb
 obtain ⟨v',w2,hrun,hown',hgrow,_,hwh⟩:=run_append_own_at (P:=Tryz.prog) (w1.alloc (.cells #[.int .u8 (c.toNat:Int)] 5)) n0 34 34 5 i0 (.int .u8 0) 1 1 Tryz.underlying34 hi hz0 hz1 hz2 rfl (by decide) v l.length (Lib.byteCells l) (hown.alloc _) ⟨w1.heap.size,0,none⟩ 1 1 [.int .u8 (c.toNat:Int)] rfl (Dh _ _ _) (by simp [Value.oneCell']) (by unfold maxLen;omega) (by omega) (by have:=st1.wt.size;simp;omega)
 rw [show Lib.byteCells l ++ [Value.int .u8 (c.toNat:Int)]=Lib.byteCells (l ++ [c]) by simp [Lib.byteCells],show l.length+1=(l ++ [c]).length by simp] at hown'
 have hb2:w2.heap[b]? = some (.cells #[p,v] 36 (0,0)):=(hgrow.block b (by simp;omega) (fun e=>hne e.symm)).trans hbA
 have d0:w2.cell? ⟨b,0,none⟩=some p:=by rw [Lib.cell_of_heap hb2];rfl
 have d1:w2.cell? ⟨b,1,none⟩=some v:=by rw [Lib.cell_of_heap hb2];rfl
 have f1:w2.frozen? ⟨b,1,none⟩=false:=Lib.frozen_of_heap hb2 1
 have afx:v'.ownBlock=none∨(∃x,v'.ownBlock=some x∧(v.ownBlock=some x∨(w1.alloc (.cells #[.int .u8 (c.toNat:Int)] 5)).heap.size≤x)):=by
  rcases hwh with e|e
  ·cases hv:v.ownBlock with
   |none=>left;rw [e,hv]
   |some x=>right;exact ⟨x,by rw [e,hv],.inl rfl⟩
  ·right;exact ⟨_,e,.inr (Nat.le_refl _)⟩
 obtain ⟨ao,n',cap,rfl⟩:∃ao n' cap,v'=.slice ao n' cap:=by
  rcases hown'.2 with ⟨hv,_⟩|⟨x,cap,cur,hv,_⟩
  ·exact ⟨_,_,_,hv⟩
  ·exact ⟨_,_,_,hv⟩
 have hr9:∀ty,(Builtin.append_ #[34,34] ty #[v,.slice (some ⟨w1.heap.size,0,none⟩) 1 1]).run Tryz.prog (w1.alloc (.cells #[.int .u8 (c.toNat:Int)] 5))=.ok (.slice ao n' cap) w2:=fun _=>hrun
 clear hrun
 go_wp2_with (at_builtin;refine ib rfl _ _ 34 34 rfl _ _ _ w2 rfl rfl hr9 ?_)
 go_ret
 exact ⟨_,rfl,BD.put hown' hb2 hnb hp,(st1.trans (.below bA)).trans (BD.step hgrow hg afx)⟩
theorem Sc:Builder.Extra Tryz.prog Tryz.stringL_ren where
 sizeBuilder:=by kernel_rfl
 liesBuilder:=by kernel_rfl
 t5:=Tryz.underlying5
 a5:=Tryz.isAgg5
 z5:=Tryz.sizeOf5
 v5:=Tryz.zeroValue5
 infoByte:=by kernel_rfl
 cellsByte:=by kernel_rfl
 sizeByte:=by kernel_rfl
 neB5:=by decide
theorem BD.text (h:BD n0 w b g l) (hn:n0≤w.heap.size):Calls Tryz.prog 12 #[wp b] w fun e w'=>e=.returned (tx l)∧Below n0 w w':=
 Any.Builder_String_any Tryz.stringL Sc n0 b l w h.is hn
end
theorem Stp.newer {n:Nat}{w w1 w2:World}{O O':Nat→Prop}(h:Below n w w1) (st:Stp w1 w2 O O') (hO:∀i,O i→n≤i) (hn:n≤w1.heap.size):Below n w w2:=
 ⟨st.wt.os.trans h.os,st.wt.tape.trans h.tape,st.wt.output.trans h.output,Nat.le_trans h.size st.wt.size,fun i hi=>(st.wt.block i (Nat.lt_of_lt_of_le hi hn) (fun z=>by have:=hO i z;omega)).trans (h.block i hi)⟩
def Eh:String:=((Rows.deskPiecesRow.laid.drop 2).map (·.1)).headD ""
theorem rD:Tryz.prog.globalNamed Eh=some 1:=by kernel_rfl
def Pow (w:World):Prop:=Lib.TabIs Tryz.prog w Eh .u64 Lib.pow10Tab
theorem Pow.below {w w':World}(h:Pow w) (hb:Below w.heap.size w w'):Pow w':=Go.Joins.tab_stays rD h hb (Nat.le_refl _)
theorem uZ (n:Int) (h0:-9223372036854775808≤n) (h1:n≤9223372036854775807) (w:World) (h:Pow w):Calls Tryz.prog 13 #[.int .i64 n] w fun e w'=>e=.returned (tx (Lib.itoa n))∧Below w.heap.size w w':=by
 refine (Any.strconv_Itoa Tryz.itoaML n h0 h1 w h).mono ?_
 rintro e w' ⟨he,k,os,rfl⟩
 refine ⟨he,rfl,rfl,rfl,by simp [Sort.grow],fun i hi=>?_⟩
 show (w.heap ++ os)[i]? = w.heap[i]?
 rw [Array.getElem?_append_left hi]
end Go.Proofs.YtippochapiolpaaGreatDoor

/- The desk's words: bytes that are shown. -/
import Derived.Test.YtippochapiolpaaGreatDoorHEach
import Derived.Test.YtippochapiolpaaGreatDoorOApp
import Derived.Deep.RegionHeld3
import Derived.Laws.IdiomStrings
set_option maxHeartbeats 4000000
set_option maxRecDepth 100000
namespace Go.Proofs.YtippochapiolpaaGreatDoor
open Go.RowKit
def xS (n:Nat):UInt8:=if n<10 then (48+n).toUInt8 else (87+n).toUInt8
def iR (c:UInt8):List UInt8:=if 32<c.toNat∧c.toNat≤126∧c.toNat≠37 then [c] else [37,xS (c.toNat / 16),xS (c.toNat % 16)]
def qx (s:List UInt8):List UInt8:=[34] ++ s.flatMap iR ++ [34]
theorem JX (c:UInt8):(iR c).length≤3:=by unfold iR;split<;>simp
theorem wD (s:List UInt8):(s.flatMap iR).length≤3*s.length:=by
 induction s with
 |nil=>simp
 |cons c s ih=>have:=JX c;simp only [List.flatMap_cons,List.length_append,List.length_cons];omega
theorem IE (w:World) (cs:List UInt8) (t:TypeId):∀j u,(Lib.byteCells cs)[j]? = some u→(w.alloc (.cells (Lib.byteCells cs).toArray t)).cell? ((⟨w.heap.size,0,none⟩:Addr).add j)=some u:=by
 intro j u hj
 have h:(w.alloc (.cells (Lib.byteCells cs).toArray t)).heap[w.heap.size]? = some (.cells (Lib.byteCells cs).toArray t):=by show (w.heap.push _)[w.heap.size]? = _;rw [Array.getElem?_push,if_pos rfl]
 rw [show (⟨w.heap.size,0,none⟩:Addr).add j=⟨w.heap.size,j,none⟩ by simp [Addr.add_lit],cell_of_row _ _ _ _ _ _ h,←hj]
 simp
theorem wU {w:World}{n0:Nat}{v:Value}{l:List UInt8}(hown:w.ownsRow n0 5 1 v l.length (Lib.byteCells l)) (hn:n0≤w.heap.size) (cs:List UInt8) (hl:l.length+cs.length≤1000000) :
 ∃ao cap w',(∀ty,(Builtin.append_ #[34,34] ty #[v,.slice (some ⟨w.heap.size,0,none⟩) cs.length cs.length]).run Tryz.prog (w.alloc (.cells (Lib.byteCells cs).toArray 5))=.ok (.slice ao (l ++ cs).length cap) w')∧w'.ownsRow n0 5 1 (.slice ao (l ++ cs).length cap) (l ++ cs).length (Lib.byteCells (l ++ cs))∧Below n0 w w':=by
 obtain ⟨i0,hi,hz0,hz1,hz2⟩:=info_parts (P:=Tryz.prog) (e:=5) (z:=.int .u8 0) (size:=1) (bytes:=1) (by kernel_rfl)
 obtain ⟨v',w2,hrun,hown',hgrow,_⟩:=run_append_own_at (P:=Tryz.prog) (w.alloc (.cells (Lib.byteCells cs).toArray 5)) n0 34 34 5 i0 (.int .u8 0) 1 1 Tryz.underlying34 hi hz0 hz1 hz2 rfl (by decide) v l.length (Lib.byteCells l) (hown.alloc _) ⟨w.heap.size,0,none⟩ cs.length cs.length (Lib.byteCells cs) (by rw [Lib.byteCells_length];omega) (IE _ _ _) (Lib.strCells_oneCell ⟨cs.toArray⟩) (by unfold maxLen;omega) (by omega) (by simp;omega)
 rw [←Lib.byteCells_append,←List.length_append] at hown'
 obtain ⟨ao,cap,rfl⟩:∃ao cap,v'=.slice ao (l ++ cs).length cap:=by
  rcases hown'.2 with ⟨hv,h0⟩|⟨x,cap,cur,hv,_⟩
  ·exact ⟨none,0,by rw [hv,h0]⟩
  ·exact ⟨_,_,hv⟩
 refine ⟨ao,cap,w2,fun _=>hrun,hown',?_⟩
 refine ((Below.refl _ w).alloc hn _).grown hgrow (by simp;omega) (fun k hk=>?_)
 exact (hown.lt k hk).1
theorem Tm {w:World}{n0:Nat}{v:Value}{l:List UInt8}(hown:w.ownsRow n0 5 1 v l.length (Lib.byteCells l)) (h0:0<l.length):(convert 34 9 v).run Tryz.prog w=.ok (tx l) w:=by
 rcases hown.2 with ⟨_,h9⟩|⟨g,cap,cur,rfl,_⟩
 ·omega
 ·exact run_convert_bytes_back (P:=Tryz.prog) w 34 9 5 ⟨g,0,none⟩ cap l Tryz.underlying34 Tryz.underlying5 Tryz.underlying9 (fun j hj=>hown.cells (g:=g) rfl j _ (by simp [Lib.byteCells,hj]))
def Yc:ByteArray:={ data:=#[48,49,50,51,52,53,54,55,56,57,97,98,99,100,101,102] }
theorem UM:∀n:Fin 16,Yc[n.val]'(Nat.lt_of_lt_of_le n.isLt (by decide))=xS n.val:=by decide
theorem xJ (n:Nat) (hn:n<16) (w:World):(Instr.index 9 (.string { data:=#[48,49,50,51,52,53,54,55,56,57,97,98,99,100,101,102] }) (.int .u8 (n:Int))).run Tryz.prog w=.ok (.int .u8 ((xS n).toNat:Int)) w:=by
 have h:=UM ⟨n,hn⟩
 go_simp
 rw [dif_pos (by omega)]
 exact congrArg (fun x:UInt8=>Result.ok (Value.int .u8 (x.toNat:Int)) w) h
theorem Uc:∀n:Fin 256,bits BinOp.and .u8 ((n.val:Nat):Int) 15=((n.val % 16:Nat):Int):=by decide
theorem Tc (w:World) (s:List UInt8) (hs:s.length≤100000) :
 Calls Tryz.prog 113 #[tx s] w fun e w'=>e=.returned (tx (qx s))∧Below w.heap.size w w':=by
 obtain ⟨i0,hi,hz0,hz1,hz2⟩:=info_parts (P:=Tryz.prog) (e:=5) (z:=.int .u8 0) (size:=1) (bytes:=1) (by kernel_rfl)
 go_enter Tryz.func113,Tryz.ntmps113
 go_upto_region 2 with fail
 have b0:Below w.heap.size w (w.alloc (.cells #[.int .u8 34] 5)):=(Below.refl _ _).alloc (Nat.le_refl _) _
 have ZO:(w.alloc (.cells #[.int .u8 34] 5)).ownsRow w.heap.size 5 1 (.slice (some ⟨w.heap.size,0,none⟩) 1 1) 1 (Lib.byteCells [34]):=
  ⟨rfl,.inr ⟨w.heap.size,1,#[.int .u8 34],rfl,Nat.le_refl _,by show (w.heap.push _)[w.heap.size]? = _;rw [Array.getElem?_push,if_pos rfl],Nat.le_refl _,by unfold maxLen;omega,rfl,rfl⟩⟩
 obtain ⟨v0,hv0⟩:∃v0,Value.slice (some ⟨w.heap.size,0,none⟩) 1 1=v0:=⟨_,rfl⟩
 rw [hv0] at ZO ⊢
 generalize w.alloc (.cells #[.int .u8 34] 5)=wA at *
 obtain ⟨b,hb⟩:∃b,w.heap.size=b:=⟨_,rfl⟩
 rw [hb] at ZO b0
 go_wp2_with fail
 go_loopg [3,9] s.length (fun mm s3 s9 wr=>∃i:Nat,i+mm=s.length∧s9=.int .i64 (i:Int)∧wr.ownsRow b 5 1 s3 ([34] ++ (s.take i).flatMap iR).length (Lib.byteCells ([34] ++ (s.take i).flatMap iR))∧Below b w wr)
 case atStart=>exact ⟨0,by omega,rfl,ZO,b0⟩
 case round=>
  obtain ⟨i,hi9,rfl,own,bw⟩:=hrel
  by_cases hlt:(i:Int)<(s.length:Int)
  ·have aG:i<s.length:=by omega
   have htk:(s.take (i+1)).flatMap iR=(s.take i).flatMap iR ++ iR s[i]:=by
    rw [List.take_succ_eq_append_getElem aG,List.flatMap_append];simp
   have hlen:=wD (s.take i)
   rw [List.length_take] at hlen
   have hl3:([34] ++ (s.take i).flatMap iR).length≤300001:=by rw [List.length_append];simp only [List.length_cons,List.length_nil];omega
   have HT:Aside _:=htk
   clear htk
   go_upto_region 6 with fail
   have hget:∀h,({ data:=s.toArray }:ByteArray)[i]'h=s[i]:=fun _=>rfl
   rw [hget]
   clear hget
   generalize s[i]=c at *
   have hx:=c.toNat_lt
   go_cut [24] (fun s24 wc=>s24=.bool (decide (32<c.toNat∧c.toNat≤126∧c.toNat≠37))∧wc=wr)
   case first=>
    generalize c.toNat=x at *
    by_cases h1:32<x
    ·by_cases h2:x≤126
     ·by_cases h3:x=37
      ·subst h3
       go_wp2_with fail
       go_meet
       case rel=>exact ⟨by simp,rfl⟩
      ·have h4:((x:Int) != 37)=true:=by simp;omega
       go_wp2_with fail
       go_meet
       case rel=>exact ⟨by simp [h1,h2,h3],rfl⟩
     ·go_wp2_with fail
      go_meet
      case rel=>exact ⟨by simp [h2],rfl⟩
    ·go_wp2_with fail
     go_meet
     case rel=>exact ⟨by simp [h1],rfl⟩
   case rest=>
    obtain ⟨rfl,hwc⟩:=hcut
    subst wc
    by_cases hp:32<c.toNat∧c.toNat≤126∧c.toNat≠37
    ·have hs:iR c=[c]:=if_pos hp
     rw [hs] at HT
     rw [decide_eq_true hp]
     clear hp hs
     obtain ⟨ao,cap,w2,hr,qa,b2⟩:=wU own (by have:=bw.size;omega) [c] (by rw [List.length_singleton];omega)
     rw [List.append_assoc,←HT.out] at qa hr
     obtain ⟨n9,I7⟩:∃n9,([34] ++ (s.take (i+1)).flatMap iR).length=n9:=⟨_,rfl⟩
     rw [I7] at qa hr
     have HN:Aside _:=I7
     clear I7
     go_wp2_with (at_builtin;refine ib rfl _ _ 34 34 rfl _ _ _ w2 rfl rfl hr ?_)
     go_roundg (gk-1)
     case measure=>omega
     case rel=>exact ⟨i+1,by omega,by go_num,by rw [HN.out];exact qa,bw.trans b2⟩
    ·have hs:iR c=[37,xS (c.toNat / 16),xS (c.toNat % 16)]:=if_neg hp
     rw [hs] at HT
     rw [decide_eq_false hp]
     clear hp hs
     obtain ⟨ao,cap,w2,hr,qa,b2⟩:=wU (w:=wr.drew) own (by have:=bw.size;show b≤wr.heap.size;omega) [37,xS (c.toNat / 16),xS (c.toNat % 16)] (by simp only [List.length_cons,List.length_nil];omega)
     rw [List.append_assoc,←HT.out] at qa hr
     obtain ⟨n9,I7⟩:∃n9,([34] ++ (s.take (i+1)).flatMap iR).length=n9:=⟨_,rfl⟩
     rw [I7] at qa hr
     have HN:Aside _:=I7
     clear I7
     have hr2:∀ty,(Builtin.append_ #[34,34] ty #[u3,.slice (some ⟨wr.heap.size,0,none⟩) 3 3]).run Tryz.prog (wr.alloc (.cells #[.int .u8 37,.int .u8 ((xS (c.toNat / 16)).toNat:Int),.int .u8 ((xS (c.toNat % 16)).toNat:Int)] 5)).drew=.ok (.slice ao n9 cap) w2:=hr
     have HR:Aside _:=hr2
     clear hr hr2
     have hA:∀w,(Instr.index 9 (.string { data:=#[48,49,50,51,52,53,54,55,56,57,97,98,99,100,101,102] }) (.int .u8 ((c.toNat:Int) / 16))).run Tryz.prog w=.ok (.int .u8 ((xS (c.toNat / 16)).toNat:Int)) w:=fun w=>by
      have:=xJ (c.toNat / 16) (by omega) w
      rwa [show ((c.toNat / 16:Nat):Int)=(c.toNat:Int) / 16 by omega] at this
     have hB:∀w,(Instr.index 9 (.string { data:=#[48,49,50,51,52,53,54,55,56,57,97,98,99,100,101,102] }) (.int .u8 ((c.toNat:Int) % 16))).run Tryz.prog w=.ok (.int .u8 ((xS (c.toNat % 16)).toNat:Int)) w:=fun w=>by
      have:=xJ (c.toNat % 16) (by omega) w
      rwa [show ((c.toNat % 16:Nat):Int)=(c.toNat:Int) % 16 by omega] at this
     have hC:bits BinOp.and .u8 (c.toNat:Int) 15=(c.toNat:Int) % 16:=Uc ⟨c.toNat,by omega⟩
     go_upto_region 8 with fail
     go_region_held3 (fun _=>True) (trivial) (first
      |(refine pW rfl (.tmp 29) (.tmp 36) 34 rfl _ _ _ w2 rfl rfl (HR.out _) ?_))
     all_goals
      clear hA hB hC
      go_wp2_with fail
      go_roundg (gk-1)
      case measure=>omega
      case rel=>exact ⟨i+1,by omega,by go_num,by rw [HN.out];exact qa,bw.trans ⟨b2.os,b2.tape,b2.output,b2.size,b2.block⟩⟩
  ·have aG:i=s.length:=by omega
   rw [aG,List.take_length] at own
   clear aG
   have hl3:=wD s
   obtain ⟨ao,cap,w2,hr,qa,b2⟩:=wU own (by have:=bw.size;omega) [34] (by simp only [List.length_append,List.length_cons,List.length_nil];omega)
   have hcv:=Tm qa (by simp)
   have HS:Aside (qx s=[34] ++ s.flatMap iR ++ [34]):=rfl
   generalize [34] ++ s.flatMap iR ++ [34]=l9 at *
   go_wp2_with (at_builtin;refine ib rfl _ _ 34 34 rfl _ _ _ w2 rfl rfl hr ?_)
   go_ret
   rw [HS.out]
   exact ⟨rfl,bw.trans b2⟩
end Go.Proofs.YtippochapiolpaaGreatDoor

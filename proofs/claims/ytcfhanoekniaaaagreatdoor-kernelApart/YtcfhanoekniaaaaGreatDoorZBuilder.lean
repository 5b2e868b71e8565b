/- strings.Builder in memory of the call's own: what is written, by its Go text; strconv's texts of numbers, by the library's contracts. -/
import Derived.Test.YtcfhanoekniaaaaGreatDoorShelf9
import Derived.Test.YtcfhanoekniaaaaGreatDoorRows
import Derived.Shelf.Strings.Builder1
import Derived.Shelf.Strconv.Itoa4
import Derived.Lib.SmallJoins
set_option maxHeartbeats 2000000
set_option maxRecDepth 100000
namespace Go.Proofs.YtcfhanoekniaaaaGreatDoor
open Go.RowKit Go.Shelf
theorem uR:(Tryz.prog.info? 302).map (·.size)=some 2:=by kernel_rfl
theorem Ew:liesAt Tryz.prog Tryz.prog.depth 302 (2 / Tryz.prog.cellsOf 302) 0 302 1=true:=by kernel_rfl
theorem Gn (b:Nat) (w:World) (h0:w.cell? ⟨b,0,none⟩=some (.pointer (some ⟨b,0,none⟩))) :
 Calls Tryz.prog 274 #[.pointer (some ⟨b,0,none⟩)] w fun e w'=>e=.returned (.tuple #[])∧w'=w:=by
 obtain ⟨j,hj,_⟩:=Option.map_eq_some_iff.1 uR
 go_enter Tryz.func274,Tryz.ntmps274
 go_wp2
 rw [Lib.run_neq_ptr_same w _ Tryz.underlying299 hj]
 go_wp2
 go_end0
 exact ⟨rfl,rfl⟩
theorem Ev (b:Nat) (w:World) (h0:w.cell? ⟨b,0,none⟩=some (.pointer none)) (hsh:w.shape? b=some (302,2)) (hfz:w.frozen? ⟨b,0,none⟩=false) :
 Calls Tryz.prog 274 #[.pointer (some ⟨b,0,none⟩)] w fun e w'=>e=.returned (.tuple #[])∧w'=w.setCell ⟨b,0,none⟩ (.pointer (some ⟨b,0,none⟩)):=by
 obtain ⟨j,hj,hjs⟩:=Option.map_eq_some_iff.1 uR
 go_enter Tryz.func274,Tryz.ntmps274
 go_wp2
 rw [Lib.run_to_unsafe w ⟨b,0,none⟩ Tryz.underlying299 Tryz.underlying244 hj (by rw [hjs];decide) hsh (Nat.zero_lt_succ 1)]
 simp only [Result.andThen]
 rw [Oper.upon_value]
 go_wp2
 rw [run_callFunc_extern Tryz.func321 (by kernel_rfl) (by kernel_rfl) (by kernel_rfl) (e:=Extern.AbiNoEscape.same) (by kernel_rfl)]
 rw [Lib.run_noEscape]
 simp only [Result.andThen]
 rw [Oper.upon_value]
 go_wp2
 rw [Lib.run_from_unsafe w ⟨b,0,none⟩ Tryz.underlying244 Tryz.underlying299 hj hsh Ew]
 simp only [Result.andThen]
 rw [Oper.upon_value]
 go_wp2
 go_end0
 exact ⟨rfl,rfl⟩
theorem Lf (B b:Nat) (bs:List Value) (w:World) (h:Lib.IsBuilder 302 5 B b bs w) :
 Calls Tryz.prog 274 #[.pointer (some ⟨b,0,none⟩)] w fun e w'=>e=.returned (.tuple #[])∧Lib.BuilderAt 302 5 B b (.pointer (some ⟨b,0,none⟩)) bs w'∧Below B w w':=by
 rcases h with h|h
 ·refine (Ev b w h.cell0 h.shape h.frozen0).mono ?_
  rintro e w' ⟨rfl,rfl⟩
  exact ⟨rfl,h.used _,(Below.refl B w).setCell (p:=⟨b,0,none⟩) h.1 _⟩
 ·refine (Gn b w h.cell0).mono ?_
  rintro e w' ⟨rfl,rfl⟩
  exact ⟨rfl,h,Below.refl B _⟩
theorem Jf (B b:Nat) (bs:List Value) (s:ByteArray) (w:World) (h:Lib.IsBuilder 302 5 B b bs w) (hlen:bs.length+s.size≤140737488355328) (hBw:B≤w.heap.size) :
 Calls Tryz.prog 199 #[.pointer (some ⟨b,0,none⟩),.string s] w fun e w'=>e=.returned (.tuple #[.int .i64 s.size,.nilIface])∧Lib.BuilderAt 302 5 B b (.pointer (some ⟨b,0,none⟩)) (bs ++ Lib.strCells s) w'∧Below B w w':=by
 obtain ⟨i0,hi,hz0,hz1,hz2⟩:=info_parts (P:=Tryz.prog) (e:=5) (z:=.int .u8 0) (size:=1) (bytes:=1) (by kernel_rfl)
 go_enter Tryz.func199,Tryz.ntmps199
 go_wp2_with fail
 refine (Lf B b bs _ h).mono ?_
 rintro e w1 ⟨rfl,h1,hb1⟩
 obtain ⟨hB,v,hbk,hown,hne⟩:=h1
 have c0:w1.cell? ⟨b,0,none⟩=some (.pointer (some ⟨b,0,none⟩)):=by rw [Lib.cell_of_heap hbk];rfl
 have c1:w1.cell? ⟨b,1,none⟩=some v:=by rw [Lib.cell_of_heap hbk];rfl
 go_wp2_with (at_builtin;refine Lib.wpList_append_own_string _ rfl _ _ 300 9 rfl B 5 i0 Tryz.underlying300 Tryz.underlying9 hi hz0 hz1 hz2 _ _ _ rfl hown s rfl ?c3 ?c4 ?c5 ?_)
 case c3=>unfold maxLen;omega
 case c4=>omega
 case c5=>have:=hb1.size;omega
 intro v' w2 hown' hgrow _
 have hlt:b<w1.heap.size:=by
  rcases Nat.lt_or_ge b w1.heap.size with h' | h'
  ·exact h'
  ·simp [Array.getElem?_eq_none h'] at hbk
 have hb2:w2.heap[b]? = some (.cells #[.pointer (some ⟨b,0,none⟩),v] 302 (0,0)):=by
  rw [hgrow.block b hlt (fun e=>hne e.symm)]
  exact hbk
 have d0:w2.cell? ⟨b,0,none⟩=some (.pointer (some ⟨b,0,none⟩)):=by rw [Lib.cell_of_heap hb2];rfl
 have d1:w2.cell? ⟨b,1,none⟩=some v:=by rw [Lib.cell_of_heap hb2];rfl
 have f1:w2.frozen? ⟨b,1,none⟩=false:=Lib.frozen_of_heap hb2 1
 obtain ⟨ao,n',cap,rfl⟩:∃ao n' cap,v'=.slice ao n' cap:=by
  rcases hown'.2 with ⟨hv,_⟩|⟨g,cap,cur,hv,_⟩
  ·exact ⟨_,_,_,hv⟩
  ·exact ⟨_,_,_,hv⟩
 go_wp2
 go_ret2
 refine ⟨rfl,?_,?_⟩
 ·exact Lib.BuilderAt.put (T:=302) (e:=5) hB hb2 (bs':=bs ++ Lib.strCells s) (by simpa [Lib.strCells_length] using hown') (by decide)
 ·exact (hb1.grown hgrow (by have:=hb1.size;omega) (fun k hk=>(hown.lt k hk).1)).setCell (p:=⟨b,1,none⟩) hB _
theorem Fs (B b:Nat) (bs S:List UInt8) (w:World) (h:Lib.IsBuilder 302 5 B b (Lib.byteCells bs) w) (hlen:bs.length+S.length≤1000000) (hBw:B≤w.heap.size) :
 Calls Tryz.prog 199 #[.pointer (some ⟨b,0,none⟩),.string ⟨S.toArray⟩] w fun e w'=>∃u,e=.returned (.tuple #[u,.nilIface])∧Lib.IsBuilder 302 5 B b (Lib.byteCells (bs ++ S)) w'∧Below B w w':=by
 have hs:(⟨S.toArray⟩:ByteArray).size=S.length:=by simp [ByteArray.size]
 refine (Jf B b (Lib.byteCells bs) ⟨S.toArray⟩ w h (by rw [Lib.byteCells_length,hs];omega) hBw).mono ?_
 rintro e w' ⟨he,hA,hb⟩
 have e0:Lib.strCells ⟨S.toArray⟩=Lib.byteCells S:=rfl
 rw [e0,←Lib.byteCells_append] at hA
 exact ⟨_,he,.inr hA,hb⟩
theorem qg {B b:Nat}{p:Value}{bs:List Value}{w w':World}(h:Lib.BuilderAt 302 5 B b p bs w) (hb:Below w.heap.size w w'):Lib.BuilderAt 302 5 B b p bs w':=by
 obtain ⟨hB,v,hbk,hown,hne⟩:=h
 refine ⟨hB,v,(hb.block b (Array.getElem?_eq_some_iff.1 hbk).1).trans hbk,⟨hown.1,?_⟩,hne⟩
 rcases hown.2 with h0|⟨g,cap,cur,e,hN,hg,rest⟩
 ·exact .inl h0
 ·exact .inr ⟨g,cap,cur,e,hN,(hb.block g (Array.getElem?_eq_some_iff.1 hg).1).trans hg,rest⟩
theorem jw {B b:Nat}{bs:List Value}{w w':World}(h:Lib.IsBuilder 302 5 B b bs w) (hb:Below w.heap.size w w'):Lib.IsBuilder 302 5 B b bs w':=
 h.elim (fun h=>.inl (qg h hb)) (fun h=>.inr (qg h hb))
theorem UZ:Builder.Extra Tryz.prog Tryz.stringL_ren where
 sizeBuilder:=by kernel_rfl
 liesBuilder:=by kernel_rfl
 t5:=Tryz.underlying5
 a5:=Tryz.isAgg5
 z5:=Tryz.sizeOf5
 v5:=Tryz.zeroValue5
 infoByte:=by kernel_rfl
 cellsByte:=by kernel_rfl
 sizeByte:=by kernel_rfl
 neB5:=by decide
theorem Nt (B b:Nat) (l:List UInt8) (w:World) (h:Lib.IsBuilder 302 5 B b (Lib.byteCells l) w) (h0:l≠[]) :
 Calls Tryz.prog 201 #[.pointer (some ⟨b,0,none⟩)] w fun e w'=>e=.returned (.string ⟨l.toArray⟩)∧Below B w w':=
 Any.Builder_String Tryz.stringL UZ B b l w h h0
theorem below_grow (w:World) (k:Nat) (os:Array Obj):Below w.heap.size w (Sort.grow (w.drewN k) os):=by
 refine ⟨rfl,rfl,rfl,by simp [Sort.grow],fun i hi=>?_⟩
 show (w.heap ++ os)[i]? = w.heap[i]?
 rw [Array.getElem?_append_left hi]
theorem bX (i:Nat) (hi:i<100) (w:World):Calls Tryz.prog 105 #[.int .i64 (i:Int)] w fun e w'=>e=.returned (.string ⟨(Lib.decDigits i).toArray⟩)∧w'=w:=
 Any.strconv_Itoa_small Tryz.itoaL i hi w
def Be:String:=((Rows.kernelRefusesRow.laid.drop 2).map (·.1)).headD ""
theorem zt:Tryz.prog.globalNamed Be=some 3:=by kernel_rfl
def Pow (w:World):Prop:=Lib.TabIs Tryz.prog w Be .u64 Lib.pow10Tab
theorem Pow.below {w w':World}(h:Pow w) (hb:Below w.heap.size w w'):Pow w':=Go.Joins.tab_stays zt h hb (Nat.le_refl _)
theorem F9 (n:Int) (h0:-9223372036854775808≤n) (h1:n≤9223372036854775807) (w:World) (h:Pow w):Calls Tryz.prog 200 #[.int .i64 n,.int .i64 10] w fun e w'=>e=.returned (.string ⟨(Lib.itoa n).toArray⟩)∧Below w.heap.size w w':=by
 refine (Any.strconv_FormatInt_10 Tryz.formatL n h0 h1 w h).mono ?_
 rintro e w' ⟨he,k,os,rfl⟩
 exact ⟨he,below_grow w k os⟩
end Go.Proofs.YtcfhanoekniaaaaGreatDoor

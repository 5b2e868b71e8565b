/- The desk's words: what is wrong is thrown; the answer to what is done. -/
import Derived.Test.YtippochapiolpaaGreatDoorHEach
import Derived.Deep.RegionHeld3
import Derived.BigQuiet
import Derived.Test.YtippochapiolpaaGreatDoorAtV
set_option maxHeartbeats 4000000
set_option maxRecDepth 100000
namespace Go.Proofs.YtippochapiolpaaGreatDoor
open Go.RowKit
abbrev thrown (v:Value):Ending:=.panicked [{ v:=v,recovered:=false }]
abbrev dR (p:Int) (word:List UInt8) (nv tv:Value) (on:Bool):Value:=.agg #[.int .i64 p,tx word,nv,tv,.bool on]
theorem zO (w:World):Calls Tryz.prog 77 #[.nilIface] w fun e w'=>e=.returned (.tuple #[])∧w'=w:=by
 go_enter Tryz.func77,Tryz.ntmps77
 go_wp2
 go_end0
 exact ⟨rfl,rfl⟩
theorem zP (k:Int) (w:World):Calls Tryz.prog 77 #[eQ k] w fun e w'=>e=thrown (eQ k)∧w'=w:=by
 go_enter Tryz.func77,Tryz.ntmps77
 go_wp2
 exact ⟨rfl,rfl,rfl⟩
theorem Wh (k:Int) (w:World) (p:Int) (word:List UInt8) (nv tv lv:Value) (on:Bool) :
 Calls Tryz.prog 85 #[dR p word nv tv on,eQ k,lv] w fun e w'=>e=thrown (eQ k)∧Below w.heap.size w w':=by
 have hC:=zP k
 go_enter Tryz.func85,Tryz.ntmps85
 go_wp2_with (go_at_call 77;refine (hC _).mono ?_;rintro e w1 ⟨rfl,hw⟩;subst w1)
 exact ⟨rfl,rfl,(Below.refl _ _).alloc (Nat.le_refl _) _⟩
theorem We (w:World) (hP:Pow w) (p:Int) (word:List UInt8) (nv tv:Value) (on:Bool) (ad:Option Addr) (L:List Int) (cap:Nat) (hA:pV w ad L) (hL:L.length≤1000) (hR:∀n∈L,dH n) (hw:word.length≤100000) :
 Calls Tryz.prog 85 #[dR p word nv tv on,.nilIface,.slice ad L.length cap] w fun e w'=>e=.returned (tx (word ++ aQ L))∧Below w.heap.size w w':=by
 have b0:Below w.heap.size w (w.alloc (.cells #[.int .i64 p,tx word,nv,tv,.bool on] 86)):=(Below.refl _ _).alloc (Nat.le_refl _) _
 have hC:=zO
 have hE:∀V,Below w.heap.size w V→Calls Tryz.prog 15 #[.slice ad L.length cap] V fun e w'=>e=.returned (tx (aQ L))∧Below V.heap.size V w':=fun V b=>MR V (hP.below b) ad L cap (hA.below b) hL hR
 have hle:¬9223372036854775807<word.length+(aQ L).length:=by have:=iG hR;omega
 have QZ:=nW word (aQ L)
 clear hP hA hR
 go_enter Tryz.func85,Tryz.ntmps85
 go_upto_region 2 with (go_at_call 77;refine (hC _).mono ?_;rintro e w1 ⟨rfl,hw⟩;subst w1)
 have d0:(w.alloc (.cells #[.int .i64 p,tx word,nv,tv,.bool on] 86)).cell? ⟨w.heap.size,1,none⟩=some (tx word):=by
  rw [cell_of_row _ _ _ _ _ _ (show (w.heap.push _)[w.heap.size]? = some _ by rw [Array.getElem?_push,if_pos rfl])];rfl
 generalize w.alloc (.cells #[.int .i64 p,tx word,nv,tv,.bool on] 86)=wA at *
 obtain ⟨x,hx⟩:∃x,w.heap.size=x:=⟨_,rfl⟩
 have hxA:x<wA.heap.size:=by rw [hx] at d0;exact World.block_lt_of_cell? wA _ d0
 rw [hx] at d0 ⊢
 have hE1:∀n,Calls Tryz.prog 15 #[.slice ad L.length cap] (wA.drewN n) fun e w'=>e=.returned (tx (aQ L))∧w'.cell? ⟨x,1,none⟩=some (tx word)∧Below w.heap.size w w':=fun n=>by
  have bn:Below w.heap.size w (wA.drewN n):=⟨b0.os,b0.tape,b0.output,b0.size,b0.block⟩
  refine (hE _ bn).mono ?_
  rintro e w' ⟨rfl,b⟩
  exact ⟨rfl,(b.cell (p:=⟨x,1,none⟩) hxA).trans d0,bn.trans (b.mono bn.size)⟩
 clear hE
 go_region_held3 (fun w'=>w'.cell? ⟨x,1,none⟩=some (tx word)) (first|exact d0|exact d1) (first
  |(go_at_call 15;refine (hE1 1).mono ?_;rintro e w2 ⟨rfl,d1,b2⟩))
 all_goals
  go_wp2_with fail
  go_ret
  exact ⟨rfl,b2⟩
end Go.Proofs.YtippochapiolpaaGreatDoor
namespace Go.Proofs.YtippochapiolpaaGreatDoor
open Go.RowKit Go.Extern.Stop Go.Stop Go.Extern
def vX (c:Int):List UInt8:=[101,114,114,111,114,32] ++ Lib.itoa c
def Lp (L:List Int) (c:Int):List UInt8:=[119,101,110,116] ++ aQ L ++ [32] ++ vX c
theorem Tryz.Xg (v:Value) (w:World):(Instr.typeAssert (.iface 25 v) 28 48 true).run Tryz.prog w=.ok (.tuple #[.agg #[.slice none 0 0,.nilIface],.bool false]) w:=by kernel_rfl
theorem Tryz.aaX (v:Value) (w:World):(Instr.typeAssert (.iface 48 v) 28 48 true).run Tryz.prog w=.ok (.tuple #[v,.bool true]) w:=by kernel_rfl
theorem Ib (w:World) (hP:Pow w) (hg:w.cell? ⟨0,0,none⟩=some iB) (c:Int) (hc:dH c) :
 Calls Tryz.prog 5 #[eQ c] w fun e w'=>e=.returned (tx (vX c))∧Below w.heap.size w w':=by
 have hT:=zw c w hg
 have hI:∀V,Below w.heap.size w V→Calls Tryz.prog 13 #[.int .i64 c] V fun e w'=>e=.returned (tx (Lib.itoa c))∧Below V.heap.size V w':=fun V b=>uZ c hc.1 hc.2 V (hP.below b)
 have hN:=Tryz.Xg
 have hle:¬9223372036854775807<6+(Lib.itoa c).length:=by have:=Lib.itoa_length_le c hc.1 hc.2;omega
 have QZ:=nW [101,114,114,111,114,32] (Lib.itoa c)
 clear hP
 go_enter Tryz.func5,Tryz.ntmps5
 go_wp2_with (first
  |(go_at_call 14;refine hT.mono ?_;rintro e w1 ⟨rfl,b1⟩;have hI1:=hI w1 b1)
  |(go_at_call 13;refine hI1.mono ?_;rintro e w2 ⟨rfl,b2⟩))
 go_ret
 have b3:=b1.trans (b2.mono b1.size)
 exact ⟨rfl,b3.alloc b3.size _⟩
theorem ER (w:World) (hP:Pow w) (hg:w.cell? ⟨0,0,none⟩=some iB) (c:Int) (hc:dH c) (ad:Option Addr) (L:List Int) (cap:Nat) (hA:pV w ad L) (hL:L.length≤1000) (hR:∀n∈L,dH n) :
 Calls Tryz.prog 5 #[FN ad L.length cap c] w fun e w'=>e=.returned (tx (Lp L c))∧Below w.heap.size w w':=by
 have hT:=NY ad L.length cap c w hg
 have hI:∀V,Below w.heap.size w V→Calls Tryz.prog 13 #[.int .i64 c] V fun e w'=>e=.returned (tx (Lib.itoa c))∧Below V.heap.size V w':=fun V b=>uZ c hc.1 hc.2 V (hP.below b)
 have hE:∀V,Below w.heap.size w V→Calls Tryz.prog 15 #[.slice ad L.length cap] V fun e w'=>e=.returned (tx (aQ L))∧Below V.heap.size V w':=fun V b=>MR V (hP.below b) ad L cap (hA.below b) hL hR
 have hN:=Tryz.aaX
 have hil:=Lib.itoa_length_le c hc.1 hc.2
 have hel:=iG hR
 have hle:¬9223372036854775807<6+(Lib.itoa c).length:=by omega
 have QZ:=nW [101,114,114,111,114,32] (Lib.itoa c)
 clear hP hA hR
 go_enter Tryz.func5,Tryz.ntmps5
 go_upto_region 3 with (first
  |(go_at_call 14;refine hT.mono ?_;rintro e w1 ⟨rfl,b1⟩;have hI1:=hI w1 b1)
  |(go_at_call 13;refine hI1.mono ?_;rintro e w2 ⟨rfl,b2⟩))
 have hd:(w2.alloc (.cells #[.slice ad L.length cap,eQ c] 48)).cell? ⟨w2.heap.size,0,none⟩=some (.slice ad L.length cap):=by
  rw [cell_of_row _ _ _ _ _ _ (show (w2.heap.push _)[w2.heap.size]? = some _ by rw [Array.getElem?_push,if_pos rfl])];rfl
 have b3:=b1.trans (b2.mono b1.size)
 have bA:Below w.heap.size w (w2.alloc (.cells #[.slice ad L.length cap,eQ c] 48)):=b3.alloc b3.size _
 obtain ⟨S,hS⟩:∃S,vX c=S:=⟨_,rfl⟩
 have hS2:101 :: 114 :: 114 :: 111 :: 114 :: 32 :: Lib.itoa c=S:=hS
 obtain ⟨X,hX⟩:∃X,[119,101,110,116] ++ aQ L=X:=⟨_,rfl⟩
 obtain ⟨Y,hY⟩:∃Y,X ++ [32]=Y:=⟨_,rfl⟩
 have hZ:Lp L c=Y ++ S:=by rw [←hY,←hX,←hS];rfl
 have l1:S.length≤30:=by rw [←hS2];simp only [List.length_cons];omega
 have l2:X.length≤22010:=by rw [←hX];simp only [List.length_append,List.length_cons,List.length_nil];omega
 have l3:Y.length≤22011:=by rw [←hY];simp only [List.length_append,List.length_cons,List.length_nil];omega
 have c1:=nW [119,101,110,116] (aQ L)
 have c2:=nW X [32]
 have c3:=nW Y S
 rw [hX] at c1
 rw [hY] at c2
 have m1:¬9223372036854775807<4+(aQ L).length:=by omega
 have m2:¬9223372036854775807<X.length+1:=by omega
 have m3:¬9223372036854775807<Y.length+S.length:=by omega
 have HZ:Aside _:=hZ
 rw [hS2]
 clear hS hS2 hX hY hZ QZ hle
 generalize w2.alloc (.cells #[.slice ad L.length cap,eQ c] 48)=wA at *
 have hEA:=hE wA bA
 go_wp2_with (go_at_call 15;refine hEA.mono ?_;rintro e w4 ⟨rfl,b4⟩)
 go_ret
 rw [HZ.out]
 exact ⟨rfl,bA.trans (b4.mono bA.size)⟩
end Go.Proofs.YtippochapiolpaaGreatDoor

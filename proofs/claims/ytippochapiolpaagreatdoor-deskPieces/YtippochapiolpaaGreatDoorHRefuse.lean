/- Ours. -/
import Derived.Test.YtippochapiolpaaGreatDoorHEach
import Derived.Deep.RegionHeld3
import Derived.Test.YtippochapiolpaaGreatDoorAtV
set_option maxHeartbeats 4000000
set_option maxRecDepth 100000
namespace Go.Proofs.YtippochapiolpaaGreatDoor
open Go.Proofs.Tryz(prog)
section
open Go.RowKit
abbrev thrown(v:Value):Ending:=.panicked [{ v:=v,recovered:=false }]
abbrev gH(p:Int)(word:List UInt8)(nv tv:Value)(on:Bool):Value:=.agg #[.int .i64 p,tx word,nv,tv,.bool on]
theorem zO(w:World):Calls prog 77 #[.nilIface] w fun e a=>e=.returned (.tuple #[])/\a=w:=by
 go_enter Tryz.func77,Tryz.ntmps77
 go_wp2
 go_end0
 exact⟨rfl,rfl⟩
theorem zP(k:Int)(w:World):Calls prog 77 #[eF k] w fun e a=>e=thrown (eF k)/\a=w:=by
 go_enter Tryz.func77,Tryz.ntmps77
 go_wp2;exact⟨rfl,rfl,rfl⟩
theorem V6(k:Int)(w:World)(p:Int)(a:List UInt8)(f d g:Value)(on:Bool):Calls prog 85 #[gH p a f d on,eF k,g] w fun e c=>e=thrown (eF k)/\Below w.heap.size w c:=by
 have h:=zP k;go_enter Tryz.func85,Tryz.ntmps85
 go_wp2_with (go_at_call 77;refine(h _).mono ?_;rintro e b ⟨rfl,i⟩;subst b)
 exact⟨rfl,rfl,(Below.refl _ _).alloc (Nat.le_refl _) _⟩
theorem V5(w:World)(q:Pow w)(p:Int)(a:List UInt8)(i h:Value)(on:Bool)(g:Option Addr)(L:List Int)(cap:Nat)(s:pV w g L)(y:L.length<=1000)(k:∀n∈L,dF n)(u:a.length<=100000):Calls prog 85 #[gH p a i h on,.nilIface,.slice g L.length cap] w fun e c=>e=.returned (tx (a++aQ L))/\Below w.heap.size w c:=by
 have f:Below w.heap.size w (w.alloc (.cells #[.int .i64 p,tx a,i,h,.bool on] 86)):=(Below.refl _ _).alloc (Nat.le_refl _) _;have z:=zO;have r:∀V,Below w.heap.size w V->Calls prog 15 #[.slice g L.length cap] V fun e c=>e=.returned (tx (aQ L))/\Below V.heap.size V c:=fun V b=>MQ V (q.below b) g L cap (s.below b) y k;have v:¬9223372036854775807<a.length+(aQ L).length:=by have:=iF k;omega
 have D:=nW a (aQ L);clear q s k;go_enter Tryz.func85,Tryz.ntmps85
 go_upto_region 2 with (go_at_call 77;refine(z _).mono ?_;rintro e t ⟨rfl,u⟩;subst t)
 have d:(w.alloc (.cells #[.int .i64 p,tx a,i,h,.bool on] 86)).cell? ⟨w.heap.size,1,none⟩=some (tx a):=by
  rw[cell_of_row _ _ _ _ _ _ (show (w.heap.push _)[w.heap.size]? = some _ by rw[Array.getElem?_push,if_pos rfl])];rfl
 generalize w.alloc (.cells #[.int .i64 p,tx a,i,h,.bool on] 86)=wA at *;obtain⟨x,o⟩:∃x,w.heap.size=x:=⟨_,rfl⟩;have j:x<wA.heap.size:=by rw[o] at d;exact World.block_lt_of_cell? wA _ d
 rw[o] at d ⊢;have l:∀n,Calls prog 15 #[.slice g L.length cap] (wA.drewN n) fun e c=>e=.returned (tx (aQ L))/\c.cell? ⟨x,1,none⟩=some (tx a)/\Below w.heap.size w c:=fun n=>by
  have m:Below w.heap.size w (wA.drewN n):=⟨f.os,f.tape,f.output,f.size,f.block⟩;refine(r _ m).mono ?_;rintro e c ⟨rfl,b⟩;exact⟨rfl,(b.cell (p:=⟨x,1,none⟩) j).trans d,m.trans (b.mono m.size)⟩
 clear r;go_region_held3 (fun c=>c.cell? ⟨x,1,none⟩=some (tx a)) (first|exact d|exact A) (first
  |(go_at_call 15;refine(l 1).mono ?_;rintro e C ⟨rfl,A,B⟩))
 all_goals
  go_wp2_with fail
  go_ret;exact⟨rfl,B⟩
end
section
open Go.RowKit Go.Extern.Stop Go.Stop Go.Extern
def vX(c:Int):List UInt8:=[101,114,114,111,114,32]++Lib.itoa c
def Lm(L:List Int)(c:Int):List UInt8:=[119,101,110,116]++aQ L++[32]++vX c
theorem Tryz.Xb(v:Value)(w:World):(Instr.typeAssert (.iface 25 v) 28 48 true).run prog w=.ok (.tuple #[.agg #[.slice none 0 0,.nilIface],.bool false]) w:=by kernel_rfl
theorem Tryz.aaP(v:Value)(w:World):(Instr.typeAssert (.iface 48 v) 28 48 true).run prog w=.ok (.tuple #[v,.bool true]) w:=by kernel_rfl
theorem Ib(w:World)(h:Pow w)(l:w.cell? ⟨0,0,none⟩=some iA)(c:Int)(a:dF c):Calls prog 5 #[eF c] w fun e d=>e=.returned (tx (vX c))/\Below w.heap.size w d:=by
 have m:=zw c w l;have n:∀V,Below w.heap.size w V->Calls prog 13 #[.int .i64 c] V fun e d=>e=.returned (tx (Lib.itoa c))/\Below V.heap.size V d:=fun V b=>uZ c a.1 a.2 V (h.below b);have q:=Tryz.Xb;have k:¬9223372036854775807<6+(Lib.itoa c).length:=by have:=Lib.itoa_length_le c a.1 a.2;omega
 have r:=nW [101,114,114,111,114,32] (Lib.itoa c);clear h;go_enter Tryz.func5,Tryz.ntmps5
 go_wp2_with (first
  |(go_at_call 14;refine m.mono ?_;rintro e j ⟨rfl,g⟩;have f:=n j g)
  |(go_at_call 13;refine f.mono ?_;rintro e p ⟨rfl,o⟩))
 go_ret;have i:=g.trans (o.mono g.size);exact⟨rfl,i.alloc i.size _⟩
theorem ER(w:World)(o:Pow w)(z:w.cell? ⟨0,0,none⟩=some iA)(c:Int)(h:dF c)(a:Option Addr)(L:List Int)(cap:Nat)(u:pV w a L)(C:L.length<=1000)(m:∀n∈L,dF n):Calls prog 5 #[FN a L.length cap c] w fun e g=>e=.returned (tx (Lm L c))/\Below w.heap.size w g:=by
 have B:=NW a L.length cap c w z;have D:∀V,Below w.heap.size w V->Calls prog 13 #[.int .i64 c] V fun e g=>e=.returned (tx (Lib.itoa c))/\Below V.heap.size V g:=fun V b=>uZ c h.1 h.2 V (o.below b);have E:∀V,Below w.heap.size w V->Calls prog 15 #[.slice a L.length cap] V fun e g=>e=.returned (tx (aQ L))/\Below V.heap.size V g:=fun V b=>MQ V (o.below b) a L cap (u.below b) C m;have W:=Tryz.aaP;have y:=Lib.itoa_length_le c h.1 h.2;have A:=iF m;have k:¬9223372036854775807<6+(Lib.itoa c).length:=by omega
 have J:=nW [101,114,114,111,114,32] (Lib.itoa c);clear o u m;go_enter Tryz.func5,Tryz.ntmps5
 go_upto_region 3 with (first
  |(go_at_call 14;refine B.mono ?_;rintro e x ⟨rfl,s⟩;have p:=D x s)
  |(go_at_call 13;refine p.mono ?_;rintro e f ⟨rfl,I⟩))
 have U:(f.alloc (.cells #[.slice a L.length cap,eF c] 48)).cell? ⟨f.heap.size,0,none⟩=some (.slice a L.length cap):=by
  rw[cell_of_row _ _ _ _ _ _ (show (f.heap.push _)[f.heap.size]? = some _ by rw[Array.getElem?_push,if_pos rfl])];rfl
 have v:=s.trans (I.mono s.size);have r:Below w.heap.size w (f.alloc (.cells #[.slice a L.length cap,eF c] 48)):=v.alloc v.size _;obtain⟨S,l⟩:∃S,vX c=S:=⟨_,rfl⟩;have d:101::114::114::111::114::32::Lib.itoa c=S:=l;obtain⟨X,j⟩:∃X,[119,101,110,116]++aQ L=X:=⟨_,rfl⟩;obtain⟨Y,i⟩:∃Y,X++[32]=Y:=⟨_,rfl⟩;have t:Lm L c=Y++S:=by rw[<-i,<-j,<-l];rfl
 have T:S.length<=30:=by rw[<-d];simp only[List.length_cons];omega
 have R:X.length<=22010:=by rw[<-j];simp only[List.length_append,List.length_cons,List.length_nil];omega
 have Q:Y.length<=22011:=by rw[<-i];simp only[List.length_append,List.length_cons,List.length_nil];omega
 have G:=nW [119,101,110,116] (aQ L);have F:=nW X [32];have Z:=nW Y S;rw[j] at G;rw[i] at F;have P:¬9223372036854775807<4+(aQ L).length:=by omega
 have O:¬9223372036854775807<X.length+1:=by omega
 have N:¬9223372036854775807<Y.length+S.length:=by omega
 have K:Aside _:=t;rw[d];clear l d j i t J k;generalize f.alloc (.cells #[.slice a L.length cap,eF c] 48)=wA at *;have q:=E wA r;go_wp2_with (go_at_call 15;refine q.mono ?_;rintro e M ⟨rfl,H⟩)
 go_ret;rw[K.out];exact⟨rfl,r.trans (H.mono r.size)⟩
end
end Go.Proofs.YtippochapiolpaaGreatDoor

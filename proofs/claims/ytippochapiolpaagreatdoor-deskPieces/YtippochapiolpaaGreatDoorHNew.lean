/- The desk's calls: what stands while one is asked. -/
import Derived.Test.YtippochapiolpaaGreatDoorHParse
import Derived.Test.YtippochapiolpaaGreatDoorHShown
import Derived.WalkSmall
import Derived.Deep.RegionHeld
import Derived.Test.YtippochapiolpaaGreatDoorSKeys
import Derived.Carry
import Derived.WalkLawsBesides
import Derived.Test.YtippochapiolpaaGreatDoorHRefuse
import Derived.Defers
import Derived.Recover
import Derived.Lib.Join
import Derived.Deep.Upon
import Derived.Deep.LoopGhost
set_option maxHeartbeats 8000000
set_option maxRecDepth 100000
namespace Go.Proofs.YtippochapiolpaaGreatDoor
open Go.RowKit
section
variable {w w' V:World}{A:Nat→Prop}
def FH {α:Type} (f:α→Value) (A:Nat→Prop) (w:World) (v:Value) (L:List α):Prop:=
 ∃blk off ad cap,v=.slice ad L.length cap∧L.length≤cap∧(L≠[]→ad=some ⟨blk,off,none⟩)∧¬A blk∧∀i (hi:i<L.length),w.cell? ⟨blk,off+i,none⟩=some (f L[i])
abbrev adL:=FH (Value.int .i64)
abbrev YP:=FH fun x:az=>tx x
theorem Wt.cell (h:Wt A w w') {p:Addr}{v:Value}(hc:w.cell? p=some v) (hp:¬A p.block):w'.cell? p=some v:=by
 rw [World.cell?_of_block (h.block p.block (World.block_lt_of_cell? w _ hc) hp)];exact hc
theorem FH.wt {α:Type} {f:α→Value}{v:Value}{L:List α}(h:FH f A w v L) (k:Wt A w w'):FH f A w' v L:=by
 obtain ⟨blk,off,ad,cap,e,hc,ha,hA,hh⟩:=h
 exact ⟨blk,off,ad,cap,e,hc,ha,hA,fun i hi=>k.cell (hh i hi) hA⟩
theorem Wt.low (k:Wt A w w') (hg:∀i,A i→9≤i) {g:Nat}(h1:g<9) (h2:g<w.heap.size):Below (g+1) w w':=
 ⟨k.os,k.tape,k.output,k.size,fun i hi=>k.block i (by omega) (fun z=>by have:=hg i z;omega)⟩
theorem GL.wt (h:GL w) (k:Wt A w w') (hg:∀i,A i→9≤i):GL w':=by
 obtain ⟨p,e,⟨te,pe,hs⟩,⟨te2,pe2,hr⟩⟩:=h
 have k9:∀ {g:Nat}{v:Value},g<9→w.cell? ⟨g,0,none⟩=some v→w'.cell? ⟨g,0,none⟩=some v:=fun {g v} IW e=>k.cell e (fun z=>Nat.lt_irrefl _ (Nat.lt_of_lt_of_le IW (hg _ z)))
 refine ⟨?_,k9 (by decide) e,⟨te,pe,k9 (by decide) hs⟩,⟨te2,pe2,k9 (by decide) hr⟩⟩
 have hlt:1<w.heap.size:=by
  rcases Nat.lt_or_ge 1 w.heap.size with h9|h9
  ·exact h9
  ·unfold Pow Lib.TabIs World.var? at p
   rw [rD] at p
   simp only [Option.bind_some] at p
   rw [Array.getElem?_eq_none h9] at p;cases p
 exact var?_below (k.low hg (by decide) hlt) rD (Nat.lt_succ_self _) p
structure Gv (w:World) (A:Nat→Prop) (cb kb:Nat) (nv tv:Value) (ns:List Int) (ts:List az):Prop where
 lt:∀i,A i→i<w.heap.size
 ge:∀i,A i→9≤i
 gl:GL w
 ca:¬A cb
 k:w.cell? ⟨cb,0,none⟩=some (wp kb)
 ns:adL A w nv ns
 ts:YP A w tv ts
end
def TO (t:az) (c:Int) (e:Ending):Prop:=(c=0∧e=.returned (tx t))∨(c≠0∧e=thrown (eQ c))
theorem uT (V:World) (g:GL V) (p:Int) (word:az) (nv tv:Value) (on:Bool) (ad:Option Addr) (L:List Int) (cap:Nat) (hA:pV V ad L) (hL:L.length≤1000) (c:Int) (hR:c=0→∀n∈L,dH n) (hw:word.length≤100000) :
 Calls Tryz.prog 85 #[dR p word nv tv on,aI c,.slice ad L.length cap] V fun e w'=>TO (word ++ aQ L) c e∧Below V.heap.size V w':=by
 by_cases hc:c=0
 ·subst hc
  exact (We V g.pow p word nv tv on ad L cap hA hL (hR rfl) hw).mono fun e w' h=>⟨.inl ⟨rfl,h.1⟩,h.2⟩
 ·rw [ax hc]
  exact (Wh c V p word nv tv (.slice ad L.length cap) on).mono fun e w' h=>⟨.inr ⟨hc,h.1⟩,h.2⟩
def XO (A:Nat→Prop) (R:Int→World→Prop) (V:World) (y:Ending) (w':World):Prop:=∃c,y=.returned (aI c)∧R c w'∧Wt A V w'
theorem told_none (V:World) (g:GL V) (p:Int) (word:az) (nv tv:Value) (on:Bool) (c:Int) (hw:word.length≤100000) :
 Calls Tryz.prog 85 #[dR p word nv tv on,aI c,.slice none 0 0] V fun e w'=>TO word c e∧Below V.heap.size V w':=
 (uT V g p word nv tv on none [] 0 (.inl rfl) (by simp) c (fun _ n h=>by cases h) hw).mono fun e w' h=>⟨by have:=h.1;rwa [show word ++ aQ []=word from List.append_nil word] at this,h.2⟩
structure GC (V:World) (cb kb x:Nat) (p:Int) (word:az) (nv tv:Value) (on:Bool) (nb no tb tf:Nat) (ns:List Int) (ts:List az):Prop where
 gl:GL V
 c0:V.cell? ⟨cb,0,none⟩=some (wp kb)
 b0:V.cell? ⟨x,0,none⟩=some (.int .i64 p)
 b1:V.cell? ⟨x,1,none⟩=some (tx word)
 b2:V.cell? ⟨x,2,none⟩=some nv
 b3:V.cell? ⟨x,3,none⟩=some tv
 b4:V.cell? ⟨x,4,none⟩=some (.bool on)
 hn:∀i (hi:i<ns.length),V.cell? ⟨nb,no+i,none⟩=some (.int .i64 ns[i])
 ht:∀i (hi:i<ts.length),V.cell? ⟨tb,tf+i,none⟩=some (tx ts[i])
section
variable {w V:World}{A:Nat→Prop}{cb kb x nb no tb tf:Nat}{nv tv:Value}{ns:List Int}{ts:List az}{p a b c:Int}{word s t:az}{on:Bool}
theorem GC.Zw (h:GC V cb kb x p word nv tv on nb no tb tf ns ts):V.cell? ⟨cb,0,none⟩=some (wp kb)∧V.cell? ⟨x,0,none⟩=some (.int .i64 p)∧V.cell? ⟨x,1,none⟩=some (tx word)∧V.cell? ⟨x,2,none⟩=some nv∧V.cell? ⟨x,3,none⟩=some tv∧V.cell? ⟨x,4,none⟩=some (.bool on):=⟨h.c0,h.b0,h.b1,h.b2,h.b3,h.b4⟩
theorem GC.n10 (h:GC V cb kb x p word nv tv on nb no tb tf [a] ts):V.cell? ⟨cb,0,none⟩=some (wp kb)∧V.cell? ⟨x,0,none⟩=some (.int .i64 p)∧V.cell? ⟨x,1,none⟩=some (tx word)∧V.cell? ⟨x,2,none⟩=some nv∧V.cell? ⟨x,3,none⟩=some tv∧V.cell? ⟨x,4,none⟩=some (.bool on)∧V.cell? ⟨nb,no,none⟩=some (.int .i64 a):=⟨h.c0,h.b0,h.b1,h.b2,h.b3,h.b4,h.hn 0 (by simp)⟩
theorem GC.n20 (h:GC V cb kb x p word nv tv on nb no tb tf [a,b] ts):V.cell? ⟨cb,0,none⟩=some (wp kb)∧V.cell? ⟨x,0,none⟩=some (.int .i64 p)∧V.cell? ⟨x,1,none⟩=some (tx word)∧V.cell? ⟨x,2,none⟩=some nv∧V.cell? ⟨x,3,none⟩=some tv∧V.cell? ⟨x,4,none⟩=some (.bool on)∧V.cell? ⟨nb,no,none⟩=some (.int .i64 a)∧V.cell? ⟨nb,no+1,none⟩=some (.int .i64 b):=⟨h.c0,h.b0,h.b1,h.b2,h.b3,h.b4,h.hn 0 (by simp),h.hn 1 (by simp)⟩
theorem GC.n30 (h:GC V cb kb x p word nv tv on nb no tb tf [a,b,c] ts):V.cell? ⟨cb,0,none⟩=some (wp kb)∧V.cell? ⟨x,0,none⟩=some (.int .i64 p)∧V.cell? ⟨x,1,none⟩=some (tx word)∧V.cell? ⟨x,2,none⟩=some nv∧V.cell? ⟨x,3,none⟩=some tv∧V.cell? ⟨x,4,none⟩=some (.bool on)∧V.cell? ⟨nb,no,none⟩=some (.int .i64 a)∧V.cell? ⟨nb,no+1,none⟩=some (.int .i64 b)∧V.cell? ⟨nb,no+2,none⟩=some (.int .i64 c):=⟨h.c0,h.b0,h.b1,h.b2,h.b3,h.b4,h.hn 0 (by simp),h.hn 1 (by simp),h.hn 2 (by simp)⟩
theorem GC.n01 (h:GC V cb kb x p word nv tv on nb no tb tf ns [s]):V.cell? ⟨cb,0,none⟩=some (wp kb)∧V.cell? ⟨x,0,none⟩=some (.int .i64 p)∧V.cell? ⟨x,1,none⟩=some (tx word)∧V.cell? ⟨x,2,none⟩=some nv∧V.cell? ⟨x,3,none⟩=some tv∧V.cell? ⟨x,4,none⟩=some (.bool on)∧V.cell? ⟨tb,tf,none⟩=some (tx s):=⟨h.c0,h.b0,h.b1,h.b2,h.b3,h.b4,h.ht 0 (by simp)⟩
theorem GC.n02 (h:GC V cb kb x p word nv tv on nb no tb tf ns [s,t]):V.cell? ⟨cb,0,none⟩=some (wp kb)∧V.cell? ⟨x,0,none⟩=some (.int .i64 p)∧V.cell? ⟨x,1,none⟩=some (tx word)∧V.cell? ⟨x,2,none⟩=some nv∧V.cell? ⟨x,3,none⟩=some tv∧V.cell? ⟨x,4,none⟩=some (.bool on)∧V.cell? ⟨tb,tf,none⟩=some (tx s)∧V.cell? ⟨tb,tf+1,none⟩=some (tx t):=⟨h.c0,h.b0,h.b1,h.b2,h.b3,h.b4,h.ht 0 (by simp),h.ht 1 (by simp)⟩
theorem GC.n11 (h:GC V cb kb x p word nv tv on nb no tb tf [a] [s]):V.cell? ⟨cb,0,none⟩=some (wp kb)∧V.cell? ⟨x,0,none⟩=some (.int .i64 p)∧V.cell? ⟨x,1,none⟩=some (tx word)∧V.cell? ⟨x,2,none⟩=some nv∧V.cell? ⟨x,3,none⟩=some tv∧V.cell? ⟨x,4,none⟩=some (.bool on)∧V.cell? ⟨nb,no,none⟩=some (.int .i64 a)∧V.cell? ⟨tb,tf,none⟩=some (tx s):=⟨h.c0,h.b0,h.b1,h.b2,h.b3,h.b4,h.hn 0 (by simp),h.ht 0 (by simp)⟩
theorem Gv.box (g:Gv w A cb kb nv tv ns ts) (p:Int) (word:az) (on:Bool):∃x wA nb no nd nc tb tf td tc,x=w.heap.size∧nv=.slice nd ns.length nc∧tv=.slice td ts.length tc∧wA=w.alloc (.cells #[.int .i64 p,tx word,.slice nd ns.length nc,.slice td ts.length tc,.bool on] 86)∧Below w.heap.size w wA∧ns.length≤nc∧ts.length≤tc∧(ns≠[]→nd=some ⟨nb,no,none⟩)∧(ts≠[]→td=some ⟨tb,tf,none⟩)∧∀V,Wt A wA V→GC V cb kb x p word (.slice nd ns.length nc) (.slice td ts.length tc) on nb no tb tf ns ts:=by
 obtain ⟨nb,no,nd,nc,rfl,hnc,hnd,hnA,hn⟩:=g.ns
 obtain ⟨tb,tf,td,tc,rfl,htc,htd,Zx,ht⟩:=g.ts
 have b:Below w.heap.size w (w.alloc (.cells #[.int .i64 p,tx word,.slice nd ns.length nc,.slice td ts.length tc,.bool on] 86)):=(Below.refl _ _).alloc (Nat.le_refl _) _
 refine ⟨_,_,nb,no,nd,nc,tb,tf,td,tc,rfl,rfl,rfl,rfl,b,hnc,htc,hnd,htd,fun V k=>?_⟩
 have k0:Wt A w V:=(Wt.below A b).trans k
 have hb:(w.alloc (.cells #[.int .i64 p,tx word,.slice nd ns.length nc,.slice td ts.length tc,.bool on] 86)).heap[w.heap.size]? = some (.cells #[.int .i64 p,tx word,.slice nd ns.length nc,.slice td ts.length tc,.bool on] 86):=by
  show (w.heap.push _)[w.heap.size]? = _;rw [Array.getElem?_push,if_pos rfl]
 have hx:¬A w.heap.size:=fun z=>Nat.lt_irrefl _ (g.lt _ z)
 have c:∀i v,(#[Value.int .i64 p,tx word,.slice nd ns.length nc,.slice td ts.length tc,.bool on]:Array Value)[i]? = some v→V.cell? ⟨w.heap.size,i,none⟩=some v:=fun i v e=>k.cell (p:=⟨w.heap.size,i,none⟩) (by rw [Lib.cell_of_heap hb];exact e) hx
 exact ⟨g.gl.wt k0 g.ge,k0.cell g.k g.ca,c 0 _ rfl,c 1 _ rfl,c 2 _ rfl,c 3 _ rfl,c 4 _ rfl,fun i hi=>k0.cell (hn i hi) hnA,fun i hi=>k0.cell (ht i hi) Zx⟩
theorem Wt.dz {w V:World}(k:Wt A w.drew V):Wt A w V:=⟨k.os,k.tape,k.output,k.size,k.block⟩
theorem Wt.eY (w:World):Wt A w w.drew:=⟨rfl,rfl,rfl,Nat.le_refl _,fun _ _ _=>rfl⟩
end
section
variable {w:World}{A:Nat→Prop}{cb kb:Nat}{nv tv:Value}{ns:List Int}{ts:List az}{p a b c:Int}{word s t:az}{on:Bool}{R:Int→World→Prop}
theorem abv (g:Gv w A cb kb nv tv [a] ts) (hw:word.length≤100000) (hX:∀V,Below w.heap.size w V→Calls Tryz.prog 97 #[wp kb,.int .i64 p,.int .i64 a] V (XO A R V)) (hR:∀c V V',R c V→Below V.heap.size V V'→R c V') :
 Calls Tryz.prog 50 #[wp cb,dR p word nv tv on] w fun e w'=>∃c,TO word c e∧R c w':=by
 obtain ⟨x,wA,nb,no,nd,nc,tb,tf,td,tc,hx,rfl,rfl,dx,bA,hnc,htc,hnd,htd,hall⟩:=g.box p word on
 obtain rfl:=hnd (by simp)
 rw [show [a].length=1 from rfl] at *
 have HA:Aside _:=hall
 have HR:Aside _:=hR
 have k9:Wt A wA wA.drew:=Wt.eY wA
 have hX1:=hX wA.drew bA.drew
 clear hX hR hall g
 go_enter Tryz.func50,Tryz.ntmps50
 go_upto_region 1 with fail
 rw [←dx,←hx]
 clear dx hx
 go_region_held (fun w'=>w'.cell? ⟨cb,0,none⟩=some (wp kb)∧w'.cell? ⟨x,0,none⟩=some (.int .i64 p)∧w'.cell? ⟨x,1,none⟩=some (tx word)∧w'.cell? ⟨x,2,none⟩=some (.slice (some ⟨nb,no,none⟩) 1 nc)∧w'.cell? ⟨x,3,none⟩=some (.slice td ts.length tc)∧w'.cell? ⟨x,4,none⟩=some (.bool on)∧w'.cell? ⟨nb,no,none⟩=some (.int .i64 a)) (exact (HA.out _ k9).n10) (first
  |(go_at_call 97;refine hX1.mono ?_;rintro y w1 ⟨e,rfl,r1,k1⟩;have k9:=k1.dz;have hT:=told_none w1 (HA.out w1 k9).gl p word (.slice (some ⟨nb,no,none⟩) 1 nc) (.slice td ts.length tc) on e hw)
  |(go_at_call 85;refine hT.mono ?_;rintro y w2 ⟨⟨hc,rfl⟩|⟨hc,rfl⟩,b2⟩;rotate_left;exact ⟨rfl,e,.inr ⟨hc,rfl⟩,HR.out _ _ _ r1 b2⟩;have k9:=k9.trans (.below A b2)))
 all_goals
  go_wp2_with fail
  go_ret
  exact ⟨e,.inl ⟨hc,rfl⟩,HR.out _ _ _ r1 b2⟩
theorem abw (g:Gv w A cb kb nv tv ns ts) (hw:word.length≤100000) (hX:∀V,Below w.heap.size w V→Calls Tryz.prog 96 #[wp kb,.int .i64 p] V (XO A R V)) (hR:∀c V V',R c V→Below V.heap.size V V'→R c V') :
 Calls Tryz.prog 49 #[wp cb,dR p word nv tv on] w fun e w'=>∃c,TO word c e∧R c w':=by
 obtain ⟨x,wA,nb,no,nd,nc,tb,tf,td,tc,hx,rfl,rfl,dx,bA,hnc,htc,hnd,htd,hall⟩:=g.box p word on
 have HA:Aside _:=hall
 have HR:Aside _:=hR
 have k9:Wt A wA wA.drew:=Wt.eY wA
 have hX1:=hX wA.drew bA.drew
 clear hX hR hall g
 go_enter Tryz.func49,Tryz.ntmps49
 go_upto_region 1 with fail
 rw [←dx,←hx]
 clear dx hx
 go_region_held (fun w'=>w'.cell? ⟨cb,0,none⟩=some (wp kb)∧w'.cell? ⟨x,0,none⟩=some (.int .i64 p)∧w'.cell? ⟨x,1,none⟩=some (tx word)∧w'.cell? ⟨x,2,none⟩=some (.slice nd ns.length nc)∧w'.cell? ⟨x,3,none⟩=some (.slice td ts.length tc)∧w'.cell? ⟨x,4,none⟩=some (.bool on)) (exact (HA.out _ k9).Zw) (first
  |(go_at_call 96;refine hX1.mono ?_;rintro y w1 ⟨e,rfl,r1,k1⟩;have k9:=k1.dz;have hT:=told_none w1 (HA.out w1 k9).gl p word (.slice nd ns.length nc) (.slice td ts.length tc) on e hw)
  |(go_at_call 85;refine hT.mono ?_;rintro y w2 ⟨⟨hc,rfl⟩|⟨hc,rfl⟩,b2⟩;rotate_left;exact ⟨rfl,e,.inr ⟨hc,rfl⟩,HR.out _ _ _ r1 b2⟩;have k9:=k9.trans (.below A b2)))
 all_goals
  go_wp2_with fail
  go_ret
  exact ⟨e,.inl ⟨hc,rfl⟩,HR.out _ _ _ r1 b2⟩
theorem abr (g:Gv w A cb kb nv tv [a,b] ts) (hw:word.length≤100000) (hX:∀V,Below w.heap.size w V→Calls Tryz.prog 100 #[wp kb,.int .i64 p,.int .i64 a,.int .i64 b] V (XO A R V)) (hR:∀c V V',R c V→Below V.heap.size V V'→R c V') :
 Calls Tryz.prog 53 #[wp cb,dR p word nv tv on] w fun e w'=>∃c,TO word c e∧R c w':=by
 obtain ⟨x,wA,nb,no,nd,nc,tb,tf,td,tc,hx,rfl,rfl,dx,bA,hnc,htc,hnd,htd,hall⟩:=g.box p word on
 obtain rfl:=hnd (by simp)
 rw [show [a,b].length=2 from rfl] at *
 have HA:Aside _:=hall
 have HR:Aside _:=hR
 have k9:Wt A wA wA.drew:=Wt.eY wA
 have hX1:=hX wA.drew bA.drew
 clear hX hR hall g
 go_enter Tryz.func53,Tryz.ntmps53
 go_upto_region 1 with fail
 rw [←dx,←hx]
 clear dx hx
 go_region_held (fun w'=>w'.cell? ⟨cb,0,none⟩=some (wp kb)∧w'.cell? ⟨x,0,none⟩=some (.int .i64 p)∧w'.cell? ⟨x,1,none⟩=some (tx word)∧w'.cell? ⟨x,2,none⟩=some (.slice (some ⟨nb,no,none⟩) 2 nc)∧w'.cell? ⟨x,3,none⟩=some (.slice td ts.length tc)∧w'.cell? ⟨x,4,none⟩=some (.bool on)∧w'.cell? ⟨nb,no,none⟩=some (.int .i64 a)∧w'.cell? ⟨nb,no+1,none⟩=some (.int .i64 b)) (exact (HA.out _ k9).n20) (first
  |(go_at_call 100;refine hX1.mono ?_;rintro y w1 ⟨e,rfl,r1,k1⟩;have k9:=k1.dz;have hT:=told_none w1 (HA.out w1 k9).gl p word (.slice (some ⟨nb,no,none⟩) 2 nc) (.slice td ts.length tc) on e hw)
  |(go_at_call 85;refine hT.mono ?_;rintro y w2 ⟨⟨hc,rfl⟩|⟨hc,rfl⟩,b2⟩;rotate_left;exact ⟨rfl,e,.inr ⟨hc,rfl⟩,HR.out _ _ _ r1 b2⟩;have k9:=k9.trans (.below A b2)))
 all_goals
  go_wp2_with fail
  go_ret
  exact ⟨e,.inl ⟨hc,rfl⟩,HR.out _ _ _ r1 b2⟩
theorem UQ (g:Gv w A cb kb nv tv [a] ts) (hw:word.length≤100000) (hX:∀V,Below w.heap.size w V→Calls Tryz.prog 99 #[wp kb,.int .i64 p,.int .i64 a,.bool on] V (XO A R V)) (hR:∀c V V',R c V→Below V.heap.size V V'→R c V') :
 Calls Tryz.prog 52 #[wp cb,dR p word nv tv on] w fun e w'=>∃c,TO word c e∧R c w':=by
 obtain ⟨x,wA,nb,no,nd,nc,tb,tf,td,tc,hx,rfl,rfl,dx,bA,hnc,htc,hnd,htd,hall⟩:=g.box p word on
 obtain rfl:=hnd (by simp)
 rw [show [a].length=1 from rfl] at *
 have HA:Aside _:=hall
 have HR:Aside _:=hR
 have k9:Wt A wA wA.drew:=Wt.eY wA
 have hX1:=hX wA.drew bA.drew
 clear hX hR hall g
 go_enter Tryz.func52,Tryz.ntmps52
 go_upto_region 1 with fail
 rw [←dx,←hx]
 clear dx hx
 go_region_held (fun w'=>w'.cell? ⟨cb,0,none⟩=some (wp kb)∧w'.cell? ⟨x,0,none⟩=some (.int .i64 p)∧w'.cell? ⟨x,1,none⟩=some (tx word)∧w'.cell? ⟨x,2,none⟩=some (.slice (some ⟨nb,no,none⟩) 1 nc)∧w'.cell? ⟨x,3,none⟩=some (.slice td ts.length tc)∧w'.cell? ⟨x,4,none⟩=some (.bool on)∧w'.cell? ⟨nb,no,none⟩=some (.int .i64 a)) (exact (HA.out _ k9).n10) (first
  |(go_at_call 99;refine hX1.mono ?_;rintro y w1 ⟨e,rfl,r1,k1⟩;have k9:=k1.dz;have hT:=told_none w1 (HA.out w1 k9).gl p word (.slice (some ⟨nb,no,none⟩) 1 nc) (.slice td ts.length tc) on e hw)
  |(go_at_call 85;refine hT.mono ?_;rintro y w2 ⟨⟨hc,rfl⟩|⟨hc,rfl⟩,b2⟩;rotate_left;exact ⟨rfl,e,.inr ⟨hc,rfl⟩,HR.out _ _ _ r1 b2⟩;have k9:=k9.trans (.below A b2)))
 all_goals
  go_wp2_with fail
  go_ret
  exact ⟨e,.inl ⟨hc,rfl⟩,HR.out _ _ _ r1 b2⟩
theorem Yk (g:Gv w A cb kb nv tv [a,b] ts) (hw:word.length≤100000) (hX:∀V,Below w.heap.size w V→Calls Tryz.prog 101 #[wp kb,.int .i64 p,.int .i64 a,.int .i64 b] V (XO A R V)) (hR:∀c V V',R c V→Below V.heap.size V V'→R c V') :
 Calls Tryz.prog 54 #[wp cb,dR p word nv tv on] w fun e w'=>∃c,TO word c e∧R c w':=by
 obtain ⟨x,wA,nb,no,nd,nc,tb,tf,td,tc,hx,rfl,rfl,dx,bA,hnc,htc,hnd,htd,hall⟩:=g.box p word on
 obtain rfl:=hnd (by simp)
 rw [show [a,b].length=2 from rfl] at *
 have HA:Aside _:=hall
 have HR:Aside _:=hR
 have k9:Wt A wA wA.drew:=Wt.eY wA
 have hX1:=hX wA.drew bA.drew
 clear hX hR hall g
 go_enter Tryz.func54,Tryz.ntmps54
 go_upto_region 1 with fail
 rw [←dx,←hx]
 clear dx hx
 go_region_held (fun w'=>w'.cell? ⟨cb,0,none⟩=some (wp kb)∧w'.cell? ⟨x,0,none⟩=some (.int .i64 p)∧w'.cell? ⟨x,1,none⟩=some (tx word)∧w'.cell? ⟨x,2,none⟩=some (.slice (some ⟨nb,no,none⟩) 2 nc)∧w'.cell? ⟨x,3,none⟩=some (.slice td ts.length tc)∧w'.cell? ⟨x,4,none⟩=some (.bool on)∧w'.cell? ⟨nb,no,none⟩=some (.int .i64 a)∧w'.cell? ⟨nb,no+1,none⟩=some (.int .i64 b)) (exact (HA.out _ k9).n20) (first
  |(go_at_call 101;refine hX1.mono ?_;rintro y w1 ⟨e,rfl,r1,k1⟩;have k9:=k1.dz;have hT:=told_none w1 (HA.out w1 k9).gl p word (.slice (some ⟨nb,no,none⟩) 2 nc) (.slice td ts.length tc) on e hw)
  |(go_at_call 85;refine hT.mono ?_;rintro y w2 ⟨⟨hc,rfl⟩|⟨hc,rfl⟩,b2⟩;rotate_left;exact ⟨rfl,e,.inr ⟨hc,rfl⟩,HR.out _ _ _ r1 b2⟩;have k9:=k9.trans (.below A b2)))
 all_goals
  go_wp2_with fail
  go_ret
  exact ⟨e,.inl ⟨hc,rfl⟩,HR.out _ _ _ r1 b2⟩
theorem UR (g:Gv w A cb kb nv tv [a] ts) (hw:word.length≤100000) (hX:∀V,Below w.heap.size w V→Calls Tryz.prog 92 #[wp kb,.int .i64 p,.int .i64 a] V (XO A R V)) (hR:∀c V V',R c V→Below V.heap.size V V'→R c V') :
 Calls Tryz.prog 45 #[wp cb,dR p word nv tv on] w fun e w'=>∃c,TO word c e∧R c w':=by
 obtain ⟨x,wA,nb,no,nd,nc,tb,tf,td,tc,hx,rfl,rfl,dx,bA,hnc,htc,hnd,htd,hall⟩:=g.box p word on
 obtain rfl:=hnd (by simp)
 rw [show [a].length=1 from rfl] at *
 have HA:Aside _:=hall
 have HR:Aside _:=hR
 have k9:Wt A wA wA.drew:=Wt.eY wA
 have hX1:=hX wA.drew bA.drew
 clear hX hR hall g
 go_enter Tryz.func45,Tryz.ntmps45
 go_upto_region 1 with fail
 rw [←dx,←hx]
 clear dx hx
 go_region_held (fun w'=>w'.cell? ⟨cb,0,none⟩=some (wp kb)∧w'.cell? ⟨x,0,none⟩=some (.int .i64 p)∧w'.cell? ⟨x,1,none⟩=some (tx word)∧w'.cell? ⟨x,2,none⟩=some (.slice (some ⟨nb,no,none⟩) 1 nc)∧w'.cell? ⟨x,3,none⟩=some (.slice td ts.length tc)∧w'.cell? ⟨x,4,none⟩=some (.bool on)∧w'.cell? ⟨nb,no,none⟩=some (.int .i64 a)) (exact (HA.out _ k9).n10) (first
  |(go_at_call 92;refine hX1.mono ?_;rintro y w1 ⟨e,rfl,r1,k1⟩;have k9:=k1.dz;have hT:=told_none w1 (HA.out w1 k9).gl p word (.slice (some ⟨nb,no,none⟩) 1 nc) (.slice td ts.length tc) on e hw)
  |(go_at_call 85;refine hT.mono ?_;rintro y w2 ⟨⟨hc,rfl⟩|⟨hc,rfl⟩,b2⟩;rotate_left;exact ⟨rfl,e,.inr ⟨hc,rfl⟩,HR.out _ _ _ r1 b2⟩;have k9:=k9.trans (.below A b2)))
 all_goals
  go_wp2_with fail
  go_ret
  exact ⟨e,.inl ⟨hc,rfl⟩,HR.out _ _ _ r1 b2⟩
theorem KV (g:Gv w A cb kb nv tv [a,b,c] ts) (hw:word.length≤100000) (hX:∀V,Below w.heap.size w V→Calls Tryz.prog 106 #[wp kb,.int .i64 p,.int .i64 a,.int .i64 b,.int .i64 c] V (XO A R V)) (hR:∀c V V',R c V→Below V.heap.size V V'→R c V') :
 Calls Tryz.prog 58 #[wp cb,dR p word nv tv on] w fun e w'=>∃c,TO word c e∧R c w':=by
 obtain ⟨x,wA,nb,no,nd,nc,tb,tf,td,tc,hx,rfl,rfl,dx,bA,hnc,htc,hnd,htd,hall⟩:=g.box p word on
 obtain rfl:=hnd (by simp)
 rw [show [a,b,c].length=3 from rfl] at *
 have HA:Aside _:=hall
 have HR:Aside _:=hR
 have k9:Wt A wA wA.drew:=Wt.eY wA
 have hX1:=hX wA.drew bA.drew
 clear hX hR hall g
 go_enter Tryz.func58,Tryz.ntmps58
 go_upto_region 1 with fail
 rw [←dx,←hx]
 clear dx hx
 go_region_held (fun w'=>w'.cell? ⟨cb,0,none⟩=some (wp kb)∧w'.cell? ⟨x,0,none⟩=some (.int .i64 p)∧w'.cell? ⟨x,1,none⟩=some (tx word)∧w'.cell? ⟨x,2,none⟩=some (.slice (some ⟨nb,no,none⟩) 3 nc)∧w'.cell? ⟨x,3,none⟩=some (.slice td ts.length tc)∧w'.cell? ⟨x,4,none⟩=some (.bool on)∧w'.cell? ⟨nb,no,none⟩=some (.int .i64 a)∧w'.cell? ⟨nb,no+1,none⟩=some (.int .i64 b)∧w'.cell? ⟨nb,no+2,none⟩=some (.int .i64 c)) (exact (HA.out _ k9).n30) (first
  |(go_at_call 106;refine hX1.mono ?_;rintro y w1 ⟨e,rfl,r1,k1⟩;have k9:=k1.dz;have hT:=told_none w1 (HA.out w1 k9).gl p word (.slice (some ⟨nb,no,none⟩) 3 nc) (.slice td ts.length tc) on e hw)
  |(go_at_call 85;refine hT.mono ?_;rintro y w2 ⟨⟨hc,rfl⟩|⟨hc,rfl⟩,b2⟩;rotate_left;exact ⟨rfl,e,.inr ⟨hc,rfl⟩,HR.out _ _ _ r1 b2⟩;have k9:=k9.trans (.below A b2)))
 all_goals
  go_wp2_with fail
  go_ret
  exact ⟨e,.inl ⟨hc,rfl⟩,HR.out _ _ _ r1 b2⟩
theorem Yh (g:Gv w A cb kb nv tv [a,b] ts) (hw:word.length≤100000) (hX:∀V,Below w.heap.size w V→Calls Tryz.prog 118 #[wp kb,.int .i64 p,.int .i64 a,.int .i64 b] V (XO A R V)) (hR:∀c V V',R c V→Below V.heap.size V V'→R c V') :
 Calls Tryz.prog 69 #[wp cb,dR p word nv tv on] w fun e w'=>∃c,TO word c e∧R c w':=by
 obtain ⟨x,wA,nb,no,nd,nc,tb,tf,td,tc,hx,rfl,rfl,dx,bA,hnc,htc,hnd,htd,hall⟩:=g.box p word on
 obtain rfl:=hnd (by simp)
 rw [show [a,b].length=2 from rfl] at *
 have HA:Aside _:=hall
 have HR:Aside _:=hR
 have k9:Wt A wA wA.drew:=Wt.eY wA
 have hX1:=hX wA.drew bA.drew
 clear hX hR hall g
 go_enter Tryz.func69,Tryz.ntmps69
 go_upto_region 1 with fail
 rw [←dx,←hx]
 clear dx hx
 go_region_held (fun w'=>w'.cell? ⟨cb,0,none⟩=some (wp kb)∧w'.cell? ⟨x,0,none⟩=some (.int .i64 p)∧w'.cell? ⟨x,1,none⟩=some (tx word)∧w'.cell? ⟨x,2,none⟩=some (.slice (some ⟨nb,no,none⟩) 2 nc)∧w'.cell? ⟨x,3,none⟩=some (.slice td ts.length tc)∧w'.cell? ⟨x,4,none⟩=some (.bool on)∧w'.cell? ⟨nb,no,none⟩=some (.int .i64 a)∧w'.cell? ⟨nb,no+1,none⟩=some (.int .i64 b)) (exact (HA.out _ k9).n20) (first
  |(go_at_call 118;refine hX1.mono ?_;rintro y w1 ⟨e,rfl,r1,k1⟩;have k9:=k1.dz;have hT:=told_none w1 (HA.out w1 k9).gl p word (.slice (some ⟨nb,no,none⟩) 2 nc) (.slice td ts.length tc) on e hw)
  |(go_at_call 85;refine hT.mono ?_;rintro y w2 ⟨⟨hc,rfl⟩|⟨hc,rfl⟩,b2⟩;rotate_left;exact ⟨rfl,e,.inr ⟨hc,rfl⟩,HR.out _ _ _ r1 b2⟩;have k9:=k9.trans (.below A b2)))
 all_goals
  go_wp2_with fail
  go_ret
  exact ⟨e,.inl ⟨hc,rfl⟩,HR.out _ _ _ r1 b2⟩
theorem Qf (g:Gv w A cb kb nv tv [a,b,c] ts) (hw:word.length≤100000) (hX:∀V,Below w.heap.size w V→Calls Tryz.prog 111 #[wp kb,.int .i64 p,.int .i64 a,.int .i64 b,.int .i64 c] V (XO A R V)) (hR:∀c V V',R c V→Below V.heap.size V V'→R c V') :
 Calls Tryz.prog 63 #[wp cb,dR p word nv tv on] w fun e w'=>∃c,TO word c e∧R c w':=by
 obtain ⟨x,wA,nb,no,nd,nc,tb,tf,td,tc,hx,rfl,rfl,dx,bA,hnc,htc,hnd,htd,hall⟩:=g.box p word on
 obtain rfl:=hnd (by simp)
 rw [show [a,b,c].length=3 from rfl] at *
 have HA:Aside _:=hall
 have HR:Aside _:=hR
 have k9:Wt A wA wA.drew:=Wt.eY wA
 have hX1:=hX wA.drew bA.drew
 clear hX hR hall g
 go_enter Tryz.func63,Tryz.ntmps63
 go_upto_region 1 with fail
 rw [←dx,←hx]
 clear dx hx
 go_region_held (fun w'=>w'.cell? ⟨cb,0,none⟩=some (wp kb)∧w'.cell? ⟨x,0,none⟩=some (.int .i64 p)∧w'.cell? ⟨x,1,none⟩=some (tx word)∧w'.cell? ⟨x,2,none⟩=some (.slice (some ⟨nb,no,none⟩) 3 nc)∧w'.cell? ⟨x,3,none⟩=some (.slice td ts.length tc)∧w'.cell? ⟨x,4,none⟩=some (.bool on)∧w'.cell? ⟨nb,no,none⟩=some (.int .i64 a)∧w'.cell? ⟨nb,no+1,none⟩=some (.int .i64 b)∧w'.cell? ⟨nb,no+2,none⟩=some (.int .i64 c)) (exact (HA.out _ k9).n30) (first
  |(go_at_call 111;refine hX1.mono ?_;rintro y w1 ⟨e,rfl,r1,k1⟩;have k9:=k1.dz;have hT:=told_none w1 (HA.out w1 k9).gl p word (.slice (some ⟨nb,no,none⟩) 3 nc) (.slice td ts.length tc) on e hw)
  |(go_at_call 85;refine hT.mono ?_;rintro y w2 ⟨⟨hc,rfl⟩|⟨hc,rfl⟩,b2⟩;rotate_left;exact ⟨rfl,e,.inr ⟨hc,rfl⟩,HR.out _ _ _ r1 b2⟩;have k9:=k9.trans (.below A b2)))
 all_goals
  go_wp2_with fail
  go_ret
  exact ⟨e,.inl ⟨hc,rfl⟩,HR.out _ _ _ r1 b2⟩
theorem abx (g:Gv w A cb kb nv tv [a,b] ts) (hw:word.length≤100000) (hX:∀V,Below w.heap.size w V→Calls Tryz.prog 95 #[wp kb,.int .i64 p,.int .i64 a,.int .i64 b] V (XO A R V)) (hR:∀c V V',R c V→Below V.heap.size V V'→R c V') :
 Calls Tryz.prog 48 #[wp cb,dR p word nv tv on] w fun e w'=>∃c,TO word c e∧R c w':=by
 obtain ⟨x,wA,nb,no,nd,nc,tb,tf,td,tc,hx,rfl,rfl,dx,bA,hnc,htc,hnd,htd,hall⟩:=g.box p word on
 obtain rfl:=hnd (by simp)
 rw [show [a,b].length=2 from rfl] at *
 have HA:Aside _:=hall
 have HR:Aside _:=hR
 have k9:Wt A wA wA.drew:=Wt.eY wA
 have hX1:=hX wA.drew bA.drew
 clear hX hR hall g
 go_enter Tryz.func48,Tryz.ntmps48
 go_upto_region 1 with fail
 rw [←dx,←hx]
 clear dx hx
 go_region_held (fun w'=>w'.cell? ⟨cb,0,none⟩=some (wp kb)∧w'.cell? ⟨x,0,none⟩=some (.int .i64 p)∧w'.cell? ⟨x,1,none⟩=some (tx word)∧w'.cell? ⟨x,2,none⟩=some (.slice (some ⟨nb,no,none⟩) 2 nc)∧w'.cell? ⟨x,3,none⟩=some (.slice td ts.length tc)∧w'.cell? ⟨x,4,none⟩=some (.bool on)∧w'.cell? ⟨nb,no,none⟩=some (.int .i64 a)∧w'.cell? ⟨nb,no+1,none⟩=some (.int .i64 b)) (exact (HA.out _ k9).n20) (first
  |(go_at_call 95;refine hX1.mono ?_;rintro y w1 ⟨e,rfl,r1,k1⟩;have k9:=k1.dz;have hT:=told_none w1 (HA.out w1 k9).gl p word (.slice (some ⟨nb,no,none⟩) 2 nc) (.slice td ts.length tc) on e hw)
  |(go_at_call 85;refine hT.mono ?_;rintro y w2 ⟨⟨hc,rfl⟩|⟨hc,rfl⟩,b2⟩;rotate_left;exact ⟨rfl,e,.inr ⟨hc,rfl⟩,HR.out _ _ _ r1 b2⟩;have k9:=k9.trans (.below A b2)))
 all_goals
  go_wp2_with fail
  go_ret
  exact ⟨e,.inl ⟨hc,rfl⟩,HR.out _ _ _ r1 b2⟩
theorem abn (g:Gv w A cb kb nv tv [a] ts) (hw:word.length≤100000) (hX:∀V,Below w.heap.size w V→Calls Tryz.prog 107 #[wp kb,.int .i64 p,.int .i64 a,.bool on] V (XO A R V)) (hR:∀c V V',R c V→Below V.heap.size V V'→R c V') :
 Calls Tryz.prog 59 #[wp cb,dR p word nv tv on] w fun e w'=>∃c,TO word c e∧R c w':=by
 obtain ⟨x,wA,nb,no,nd,nc,tb,tf,td,tc,hx,rfl,rfl,dx,bA,hnc,htc,hnd,htd,hall⟩:=g.box p word on
 obtain rfl:=hnd (by simp)
 rw [show [a].length=1 from rfl] at *
 have HA:Aside _:=hall
 have HR:Aside _:=hR
 have k9:Wt A wA wA.drew:=Wt.eY wA
 have hX1:=hX wA.drew bA.drew
 clear hX hR hall g
 go_enter Tryz.func59,Tryz.ntmps59
 go_upto_region 1 with fail
 rw [←dx,←hx]
 clear dx hx
 go_region_held (fun w'=>w'.cell? ⟨cb,0,none⟩=some (wp kb)∧w'.cell? ⟨x,0,none⟩=some (.int .i64 p)∧w'.cell? ⟨x,1,none⟩=some (tx word)∧w'.cell? ⟨x,2,none⟩=some (.slice (some ⟨nb,no,none⟩) 1 nc)∧w'.cell? ⟨x,3,none⟩=some (.slice td ts.length tc)∧w'.cell? ⟨x,4,none⟩=some (.bool on)∧w'.cell? ⟨nb,no,none⟩=some (.int .i64 a)) (exact (HA.out _ k9).n10) (first
  |(go_at_call 107;refine hX1.mono ?_;rintro y w1 ⟨e,rfl,r1,k1⟩;have k9:=k1.dz;have hT:=told_none w1 (HA.out w1 k9).gl p word (.slice (some ⟨nb,no,none⟩) 1 nc) (.slice td ts.length tc) on e hw)
  |(go_at_call 85;refine hT.mono ?_;rintro y w2 ⟨⟨hc,rfl⟩|⟨hc,rfl⟩,b2⟩;rotate_left;exact ⟨rfl,e,.inr ⟨hc,rfl⟩,HR.out _ _ _ r1 b2⟩;have k9:=k9.trans (.below A b2)))
 all_goals
  go_wp2_with fail
  go_ret
  exact ⟨e,.inl ⟨hc,rfl⟩,HR.out _ _ _ r1 b2⟩
theorem Yl (g:Gv w A cb kb nv tv [a] ts) (hw:word.length≤100000) (hX:∀V,Below w.heap.size w V→Calls Tryz.prog 93 #[wp kb,.int .i64 p,.int .i64 a] V (XO A R V)) (hR:∀c V V',R c V→Below V.heap.size V V'→R c V') :
 Calls Tryz.prog 46 #[wp cb,dR p word nv tv on] w fun e w'=>∃c,TO word c e∧R c w':=by
 obtain ⟨x,wA,nb,no,nd,nc,tb,tf,td,tc,hx,rfl,rfl,dx,bA,hnc,htc,hnd,htd,hall⟩:=g.box p word on
 obtain rfl:=hnd (by simp)
 rw [show [a].length=1 from rfl] at *
 have HA:Aside _:=hall
 have HR:Aside _:=hR
 have k9:Wt A wA wA.drew:=Wt.eY wA
 have hX1:=hX wA.drew bA.drew
 clear hX hR hall g
 go_enter Tryz.func46,Tryz.ntmps46
 go_upto_region 1 with fail
 rw [←dx,←hx]
 clear dx hx
 go_region_held (fun w'=>w'.cell? ⟨cb,0,none⟩=some (wp kb)∧w'.cell? ⟨x,0,none⟩=some (.int .i64 p)∧w'.cell? ⟨x,1,none⟩=some (tx word)∧w'.cell? ⟨x,2,none⟩=some (.slice (some ⟨nb,no,none⟩) 1 nc)∧w'.cell? ⟨x,3,none⟩=some (.slice td ts.length tc)∧w'.cell? ⟨x,4,none⟩=some (.bool on)∧w'.cell? ⟨nb,no,none⟩=some (.int .i64 a)) (exact (HA.out _ k9).n10) (first
  |(go_at_call 93;refine hX1.mono ?_;rintro y w1 ⟨e,rfl,r1,k1⟩;have k9:=k1.dz;have hT:=told_none w1 (HA.out w1 k9).gl p word (.slice (some ⟨nb,no,none⟩) 1 nc) (.slice td ts.length tc) on e hw)
  |(go_at_call 85;refine hT.mono ?_;rintro y w2 ⟨⟨hc,rfl⟩|⟨hc,rfl⟩,b2⟩;rotate_left;exact ⟨rfl,e,.inr ⟨hc,rfl⟩,HR.out _ _ _ r1 b2⟩;have k9:=k9.trans (.below A b2)))
 all_goals
  go_wp2_with fail
  go_ret
  exact ⟨e,.inl ⟨hc,rfl⟩,HR.out _ _ _ r1 b2⟩
theorem abh (g:Gv w A cb kb nv tv [a,b] ts) (hw:word.length≤100000) (hX:∀V,Below w.heap.size w V→Calls Tryz.prog 115 #[wp kb,.int .i64 p,.int .i64 a,.int .i64 b] V (XO A R V)) (hR:∀c V V',R c V→Below V.heap.size V V'→R c V') :
 Calls Tryz.prog 66 #[wp cb,dR p word nv tv on] w fun e w'=>∃c,TO word c e∧R c w':=by
 obtain ⟨x,wA,nb,no,nd,nc,tb,tf,td,tc,hx,rfl,rfl,dx,bA,hnc,htc,hnd,htd,hall⟩:=g.box p word on
 obtain rfl:=hnd (by simp)
 rw [show [a,b].length=2 from rfl] at *
 have HA:Aside _:=hall
 have HR:Aside _:=hR
 have k9:Wt A wA wA.drew:=Wt.eY wA
 have hX1:=hX wA.drew bA.drew
 clear hX hR hall g
 go_enter Tryz.func66,Tryz.ntmps66
 go_upto_region 1 with fail
 rw [←dx,←hx]
 clear dx hx
 go_region_held (fun w'=>w'.cell? ⟨cb,0,none⟩=some (wp kb)∧w'.cell? ⟨x,0,none⟩=some (.int .i64 p)∧w'.cell? ⟨x,1,none⟩=some (tx word)∧w'.cell? ⟨x,2,none⟩=some (.slice (some ⟨nb,no,none⟩) 2 nc)∧w'.cell? ⟨x,3,none⟩=some (.slice td ts.length tc)∧w'.cell? ⟨x,4,none⟩=some (.bool on)∧w'.cell? ⟨nb,no,none⟩=some (.int .i64 a)∧w'.cell? ⟨nb,no+1,none⟩=some (.int .i64 b)) (exact (HA.out _ k9).n20) (first
  |(go_at_call 115;refine hX1.mono ?_;rintro y w1 ⟨e,rfl,r1,k1⟩;have k9:=k1.dz;have hT:=told_none w1 (HA.out w1 k9).gl p word (.slice (some ⟨nb,no,none⟩) 2 nc) (.slice td ts.length tc) on e hw)
  |(go_at_call 85;refine hT.mono ?_;rintro y w2 ⟨⟨hc,rfl⟩|⟨hc,rfl⟩,b2⟩;rotate_left;exact ⟨rfl,e,.inr ⟨hc,rfl⟩,HR.out _ _ _ r1 b2⟩;have k9:=k9.trans (.below A b2)))
 all_goals
  go_wp2_with fail
  go_ret
  exact ⟨e,.inl ⟨hc,rfl⟩,HR.out _ _ _ r1 b2⟩
theorem Yj (g:Gv w A cb kb nv tv ns [s]) (hw:word.length≤100000) (hX:∀V,Below w.heap.size w V→Calls Tryz.prog 108 #[wp kb,.int .i64 p,tx s] V (XO A R V)) (hR:∀c V V',R c V→Below V.heap.size V V'→R c V') :
 Calls Tryz.prog 60 #[wp cb,dR p word nv tv on] w fun e w'=>∃c,TO word c e∧R c w':=by
 obtain ⟨x,wA,nb,no,nd,nc,tb,tf,td,tc,hx,rfl,rfl,dx,bA,hnc,htc,hnd,htd,hall⟩:=g.box p word on
 obtain rfl:=htd (by simp)
 rw [show [s].length=1 from rfl] at *
 have HA:Aside _:=hall
 have HR:Aside _:=hR
 have k9:Wt A wA wA.drew:=Wt.eY wA
 have hX1:=hX wA.drew bA.drew
 clear hX hR hall g
 go_enter Tryz.func60,Tryz.ntmps60
 go_upto_region 1 with fail
 rw [←dx,←hx]
 clear dx hx
 go_region_held (fun w'=>w'.cell? ⟨cb,0,none⟩=some (wp kb)∧w'.cell? ⟨x,0,none⟩=some (.int .i64 p)∧w'.cell? ⟨x,1,none⟩=some (tx word)∧w'.cell? ⟨x,2,none⟩=some (.slice nd ns.length nc)∧w'.cell? ⟨x,3,none⟩=some (.slice (some ⟨tb,tf,none⟩) 1 tc)∧w'.cell? ⟨x,4,none⟩=some (.bool on)∧w'.cell? ⟨tb,tf,none⟩=some (tx s)) (exact (HA.out _ k9).n01) (first
  |(go_at_call 108;refine hX1.mono ?_;rintro y w1 ⟨e,rfl,r1,k1⟩;have k9:=k1.dz;have hT:=told_none w1 (HA.out w1 k9).gl p word (.slice nd ns.length nc) (.slice (some ⟨tb,tf,none⟩) 1 tc) on e hw)
  |(go_at_call 85;refine hT.mono ?_;rintro y w2 ⟨⟨hc,rfl⟩|⟨hc,rfl⟩,b2⟩;rotate_left;exact ⟨rfl,e,.inr ⟨hc,rfl⟩,HR.out _ _ _ r1 b2⟩;have k9:=k9.trans (.below A b2)))
 all_goals
  go_wp2_with fail
  go_ret
  exact ⟨e,.inl ⟨hc,rfl⟩,HR.out _ _ _ r1 b2⟩
theorem abq (g:Gv w A cb kb nv tv ns [s,t]) (hw:word.length≤100000) (hX:∀V,Below w.heap.size w V→Calls Tryz.prog 102 #[wp kb,.int .i64 p,tx s,tx t] V (XO A R V)) (hR:∀c V V',R c V→Below V.heap.size V V'→R c V') :
 Calls Tryz.prog 55 #[wp cb,dR p word nv tv on] w fun e w'=>∃c,TO word c e∧R c w':=by
 obtain ⟨x,wA,nb,no,nd,nc,tb,tf,td,tc,hx,rfl,rfl,dx,bA,hnc,htc,hnd,htd,hall⟩:=g.box p word on
 obtain rfl:=htd (by simp)
 rw [show [s,t].length=2 from rfl] at *
 have HA:Aside _:=hall
 have HR:Aside _:=hR
 have k9:Wt A wA wA.drew:=Wt.eY wA
 have hX1:=hX wA.drew bA.drew
 clear hX hR hall g
 go_enter Tryz.func55,Tryz.ntmps55
 go_upto_region 1 with fail
 rw [←dx,←hx]
 clear dx hx
 go_region_held (fun w'=>w'.cell? ⟨cb,0,none⟩=some (wp kb)∧w'.cell? ⟨x,0,none⟩=some (.int .i64 p)∧w'.cell? ⟨x,1,none⟩=some (tx word)∧w'.cell? ⟨x,2,none⟩=some (.slice nd ns.length nc)∧w'.cell? ⟨x,3,none⟩=some (.slice (some ⟨tb,tf,none⟩) 2 tc)∧w'.cell? ⟨x,4,none⟩=some (.bool on)∧w'.cell? ⟨tb,tf,none⟩=some (tx s)∧w'.cell? ⟨tb,tf+1,none⟩=some (tx t)) (exact (HA.out _ k9).n02) (first
  |(go_at_call 102;refine hX1.mono ?_;rintro y w1 ⟨e,rfl,r1,k1⟩;have k9:=k1.dz;have hT:=told_none w1 (HA.out w1 k9).gl p word (.slice nd ns.length nc) (.slice (some ⟨tb,tf,none⟩) 2 tc) on e hw)
  |(go_at_call 85;refine hT.mono ?_;rintro y w2 ⟨⟨hc,rfl⟩|⟨hc,rfl⟩,b2⟩;rotate_left;exact ⟨rfl,e,.inr ⟨hc,rfl⟩,HR.out _ _ _ r1 b2⟩;have k9:=k9.trans (.below A b2)))
 all_goals
  go_wp2_with fail
  go_ret
  exact ⟨e,.inl ⟨hc,rfl⟩,HR.out _ _ _ r1 b2⟩
theorem UN (g:Gv w A cb kb nv tv ns [s]) (hw:word.length≤100000) (hX:∀V,Below w.heap.size w V→Calls Tryz.prog 117 #[wp kb,.int .i64 p,tx s] V (XO A R V)) (hR:∀c V V',R c V→Below V.heap.size V V'→R c V') :
 Calls Tryz.prog 68 #[wp cb,dR p word nv tv on] w fun e w'=>∃c,TO word c e∧R c w':=by
 obtain ⟨x,wA,nb,no,nd,nc,tb,tf,td,tc,hx,rfl,rfl,dx,bA,hnc,htc,hnd,htd,hall⟩:=g.box p word on
 obtain rfl:=htd (by simp)
 rw [show [s].length=1 from rfl] at *
 have HA:Aside _:=hall
 have HR:Aside _:=hR
 have k9:Wt A wA wA.drew:=Wt.eY wA
 have hX1:=hX wA.drew bA.drew
 clear hX hR hall g
 go_enter Tryz.func68,Tryz.ntmps68
 go_upto_region 1 with fail
 rw [←dx,←hx]
 clear dx hx
 go_region_held (fun w'=>w'.cell? ⟨cb,0,none⟩=some (wp kb)∧w'.cell? ⟨x,0,none⟩=some (.int .i64 p)∧w'.cell? ⟨x,1,none⟩=some (tx word)∧w'.cell? ⟨x,2,none⟩=some (.slice nd ns.length nc)∧w'.cell? ⟨x,3,none⟩=some (.slice (some ⟨tb,tf,none⟩) 1 tc)∧w'.cell? ⟨x,4,none⟩=some (.bool on)∧w'.cell? ⟨tb,tf,none⟩=some (tx s)) (exact (HA.out _ k9).n01) (first
  |(go_at_call 117;refine hX1.mono ?_;rintro y w1 ⟨e,rfl,r1,k1⟩;have k9:=k1.dz;have hT:=told_none w1 (HA.out w1 k9).gl p word (.slice nd ns.length nc) (.slice (some ⟨tb,tf,none⟩) 1 tc) on e hw)
  |(go_at_call 85;refine hT.mono ?_;rintro y w2 ⟨⟨hc,rfl⟩|⟨hc,rfl⟩,b2⟩;rotate_left;exact ⟨rfl,e,.inr ⟨hc,rfl⟩,HR.out _ _ _ r1 b2⟩;have k9:=k9.trans (.below A b2)))
 all_goals
  go_wp2_with fail
  go_ret
  exact ⟨e,.inl ⟨hc,rfl⟩,HR.out _ _ _ r1 b2⟩
theorem UO (g:Gv w A cb kb nv tv ns [s,t]) (hw:word.length≤100000) (hX:∀V,Below w.heap.size w V→Calls Tryz.prog 114 #[wp kb,.int .i64 p,tx s,tx t] V (XO A R V)) (hR:∀c V V',R c V→Below V.heap.size V V'→R c V') :
 Calls Tryz.prog 65 #[wp cb,dR p word nv tv on] w fun e w'=>∃c,TO word c e∧R c w':=by
 obtain ⟨x,wA,nb,no,nd,nc,tb,tf,td,tc,hx,rfl,rfl,dx,bA,hnc,htc,hnd,htd,hall⟩:=g.box p word on
 obtain rfl:=htd (by simp)
 rw [show [s,t].length=2 from rfl] at *
 have HA:Aside _:=hall
 have HR:Aside _:=hR
 have k9:Wt A wA wA.drew:=Wt.eY wA
 have hX1:=hX wA.drew bA.drew
 clear hX hR hall g
 go_enter Tryz.func65,Tryz.ntmps65
 go_upto_region 1 with fail
 rw [←dx,←hx]
 clear dx hx
 go_region_held (fun w'=>w'.cell? ⟨cb,0,none⟩=some (wp kb)∧w'.cell? ⟨x,0,none⟩=some (.int .i64 p)∧w'.cell? ⟨x,1,none⟩=some (tx word)∧w'.cell? ⟨x,2,none⟩=some (.slice nd ns.length nc)∧w'.cell? ⟨x,3,none⟩=some (.slice (some ⟨tb,tf,none⟩) 2 tc)∧w'.cell? ⟨x,4,none⟩=some (.bool on)∧w'.cell? ⟨tb,tf,none⟩=some (tx s)∧w'.cell? ⟨tb,tf+1,none⟩=some (tx t)) (exact (HA.out _ k9).n02) (first
  |(go_at_call 114;refine hX1.mono ?_;rintro y w1 ⟨e,rfl,r1,k1⟩;have k9:=k1.dz;have hT:=told_none w1 (HA.out w1 k9).gl p word (.slice nd ns.length nc) (.slice (some ⟨tb,tf,none⟩) 2 tc) on e hw)
  |(go_at_call 85;refine hT.mono ?_;rintro y w2 ⟨⟨hc,rfl⟩|⟨hc,rfl⟩,b2⟩;rotate_left;exact ⟨rfl,e,.inr ⟨hc,rfl⟩,HR.out _ _ _ r1 b2⟩;have k9:=k9.trans (.below A b2)))
 all_goals
  go_wp2_with fail
  go_ret
  exact ⟨e,.inl ⟨hc,rfl⟩,HR.out _ _ _ r1 b2⟩
end
end Go.Proofs.YtippochapiolpaaGreatDoor
namespace Go.Proofs.YtippochapiolpaaGreatDoor
open Go.RowKit Go.Maps
abbrev Dz (f:az) (k:Nat) (cb:Nat):Value:=.agg #[tx f,.func (.func k) #[wp cb] #[]]
abbrev Lm:=List (az×az×Nat)
def bq (x:az):Lm→Option (az×Nat)
 | []=>none
 |(n,f,k) :: l=>if x=n then some (f,k) else bq x l
def BJ (cb:Nat) (L:Lm):az→Option Value:=fun x=>(bq x L).map fun y=>Dz y.1 y.2 cb
def TM (w:World) (cb g:Nat) (L:Lm):Prop:=∃n,n≤L.length∧SMap w g n (BJ cb L)
theorem TM.new (w:World) (cb:Nat):TM (w.alloc (.map #[] 0)) cb w.heap.size []:=⟨0,Nat.le_refl _,SMap.made w⟩
theorem TM.keep {w w':World}{cb g:Nat}{L:Lm}(h:TM w cb g L) (k:w'.heap[g]? = w.heap[g]?):TM w' cb g L:=by
 obtain ⟨n,hn,m⟩:=h
 exact ⟨n,hn,m.keep k⟩
theorem TM.lt {w:World}{cb g:Nat}{L:Lm}(h:TM w cb g L):g<w.heap.size:=by
 obtain ⟨n,hn,m⟩:=h
 exact m.lt
theorem xy {ops:Array Oper}{rest:List Oper}{o:Oper}{a:Act}{w w0:World}{n0:Nat}{Q:Exit→Act→World→Prop}(hgd:o.guard=none) (m x v:Operand) (t:TypeId) (hop:o.op=Op.insert t m x v)
 (e:TypeId) (ht:Tryz.prog.underlying t=some (.map 9 e)) (cb g:Nat) (L:Lm) (hm:a.eval m=.map (some g)) (hown:TM w cb g L) (hb:Below n0 w0 w) (hg:n0≤g) (hL:L.length≤100) (k f:az) (fn:Nat) (hx:a.eval x=tx k) (hk:k.length≤100) (hv:a.eval v=Dz f fn cb)
 (h:∀w',TM w' cb g ((k,f,fn) :: L)→Below n0 w0 w'→wpList Tryz.prog ops Q rest (a.put o.dst undef) w'):wpList Tryz.prog ops Q (o :: rest) a w:=by
 refine wpList_plain hgd fun K' hK'=>?_
 obtain ⟨n,hn,hs⟩:=hown
 have hlt:=hs.lt
 have m1:(100:Nat)<maxLen:=by decide
 obtain ⟨w',hrun,r1,r2⟩:=hs.put ht (by omega) k (by omega) (Dz f fn cb)
 unfold Oper.wp
 simp [execOp,hop,hm,hx,hv,hrun,Result.andThen]
 have e9:(fun i=>if i=k then some (Dz f fn cb) else BJ cb L i)=BJ cb ((k,f,fn) :: L):=by
  funext i
  unfold BJ
  rw [bq]
  split<;>rfl
 rw [e9] at r1
 refine hK' _ _ (h w' ⟨_,?_,r1⟩ ?_)
 ·rw [List.length_cons];split<;>omega
 ·exact ⟨r2.os.trans hb.os,r2.tape.trans hb.tape,r2.output.trans hb.output,Nat.le_trans hb.size r2.size,fun i hi=>(r2.block i (by omega) (by simp;omega)).trans (hb.block i hi)⟩
def df:Lm:=[([119,114,105,116,101],[78,84],71),([119,97,105,116],[],70),([117,110,109,97,112],[78,78],69),([117,110,108,105,110,107],[84],68),([115,116,111,114,101],[78,78,78],67),([115,101,101,107],[78,78],66),([114,101,110,97,109,101],[84,84],65),([114,101,97,100],[78,78],64),([112,114,111,116,101,99,116],[78,78,78],63),([112,105,112,101],[],62),([111,112,101,110],[84,78,89],61),([109,107,100,105,114],[84],60),([109,97,114,107],[78,89],59),([109,97,112],[78,78,78],58),([108,111,97,100],[78,78],57),([108,105,115,116],[84],56),([108,105,110,107],[84,84],55),([108,105,109,105,116],[78,78],54),([107,105,108,108],[78,78],53),([105,103,110,111,114,101],[78,89],52),([102,111,114,107],[],51),([101,120,105,116],[78],50),([101,120,101,99],[],49),([100,117,112,50],[78,78],48),([100,117,112],[78],47),([99,108,111,115,101],[78],46),([97,100,106,117,115,116],[78],45)]
def dJ:Lm:=[([112,105,100,115],[],44),([110,101,119],[78],43),([104,101,108,112],[],42),([104,97,115],[78],41),([102,114,101,101],[],40)]
theorem Fj (w:World) (cb:Nat):Calls Tryz.prog 21 #[wp cb] w fun e w'=>∃g,e=.returned (.map (some g))∧TM w' cb g dJ∧w.heap.size≤g∧Below w.heap.size w w':=by
 have hmm:=@run_makeMap Tryz.prog
 have hmf:∀(fn:Fn) (first cap:Array Value) (w:World),(Instr.makeFunc fn first cap).run Tryz.prog w=.ok (.func fn first cap) w:=fun _ _ _ _=>rfl
 have hT:=TM.new w cb
 have hb:Below w.heap.size w (w.alloc (.map #[] 0)):=(Below.refl _ _).alloc (Nat.le_refl _) _
 obtain ⟨g,hg⟩:∃g,w.heap.size=g:=⟨_,rfl⟩
 have IW:w.heap.size≤g:=by omega
 rw [hg] at hT
 go_enter Tryz.func21,Tryz.ntmps21
 go_wp2_with (refine xy rfl _ _ _ 68 rfl 83 Tryz.underlying68 cb g _ rfl hT hb IW (by simp) _ _ _ rfl (by simp) rfl ?_;clear hT hb;intro w1 hT hb)
 go_ret
 exact ⟨g,rfl,hT,IW,hb⟩
theorem IM (w:World) (cb:Nat):Calls Tryz.prog 22 #[wp cb] w fun e w'=>∃g,e=.returned (.map (some g))∧TM w' cb g df∧w.heap.size≤g∧Below w.heap.size w w':=by
 have hmm:=@run_makeMap Tryz.prog
 have hmf:∀(fn:Fn) (first cap:Array Value) (w:World),(Instr.makeFunc fn first cap).run Tryz.prog w=.ok (.func fn first cap) w:=fun _ _ _ _=>rfl
 have hT:=TM.new w cb
 have hb:Below w.heap.size w (w.alloc (.map #[] 0)):=(Below.refl _ _).alloc (Nat.le_refl _) _
 obtain ⟨g,hg⟩:∃g,w.heap.size=g:=⟨_,rfl⟩
 have IW:w.heap.size≤g:=by omega
 rw [hg] at hT
 go_enter Tryz.func22,Tryz.ntmps22
 go_upto_region 1 with fail
 simp only [List.append_eq,List.cons_append,List.nil_append]
 go_wp2_with (refine xy rfl _ _ _ 68 rfl 83 Tryz.underlying68 cb g _ rfl hT hb IW (by simp) _ _ _ rfl (by simp) rfl ?_;clear hT hb;intro w1 hT hb)
 go_ret
 exact ⟨g,rfl,hT,IW,hb⟩
def WV (w:World) (v:Value) (ws:List az):Prop:=∃ad cap,v=.slice ad ws.length cap∧ws.length≤cap∧Vm w ad ws
theorem FX (w:World):(zeroValue 83).run Tryz.prog w=.ok (.agg #[.string { data:=#[] },.nilFunc]) w:=by kernel_rfl
def yM (cb:Nat) (L:Lm) (ws:List az) (e:Ending):Prop:=
 match ws with
 | []=>e=thrown (eQ 3)
 |x :: _=>match bq x L with
  |none=>e=thrown (eQ 3)
  |some y=>e=.returned (Dz y.1 y.2 cb)
theorem GV (w:World) {cb g:Nat}{L:Lm}(hT:TM w cb g L) {v:Value}{ws:List az}(hw:WV w v ws) (hl:∀x∈ws,x.length≤100000) :
 Calls Tryz.prog 31 #[.map (some g),v] w fun e w'=>yM cb L ws e∧Below w.heap.size w w':=by
 obtain ⟨ad,cap,rfl,hcap,hA⟩:=hw
 cases ws with
 |nil=>
  go_enter Tryz.func31,Tryz.ntmps31
  go_wp2_with fail
  exact ⟨rfl,rfl,(Below.refl _ _).alloc (Nat.le_refl _) _⟩
 |cons x ws=>
  rcases hA with h9|⟨blk,off,rfl,hbl,hcs⟩
  ·cases h9
  have c0:∀o,(w.alloc o).cell? ⟨blk,off,none⟩=some (tx x):=fun o=>by rw [World.cell?_alloc_lt _ _ ⟨blk,off,none⟩ hbl];exact hcs 0 (by simp)
  have b1:∀o,Below w.heap.size w (w.alloc o):=fun o=>(Below.refl _ _).alloc (Nat.le_refl _) _
  have b2:∀o o',Below w.heap.size w ((w.alloc o).alloc o'):=fun o o'=>(b1 o).alloc (by simp) _
  have hxl:=hl x List.mem_cons_self
  have hT1:∀o,∃n,SMap (w.alloc o) g n (BJ cb L):=fun o=>by
   obtain ⟨n,_,m⟩:=hT.keep (w':=w.alloc o) ((b1 o).block g hT.lt)
   exact ⟨n,m⟩
  have wY:x.length≤maxLen:=by have:(100000:Nat)≤maxLen:=by decide
                              omega
  have HM:Aside (BJ cb L x=(bq x L).map fun y=>Dz y.1 y.2 cb):=rfl
  unfold yM
  simp only []
  clear hcs hcap hl hT
  obtain ⟨n,hm⟩:=hT1 (.cells #[.string { data:=#[] },.nilFunc] 83)
  clear hT1
  have hs1:∀(a:Addr) (V:World),(store a .nilFunc).run Tryz.prog V=stored Tryz.prog V a .nilFunc .plain:=fun a V=>run_store _ _ _ _ _ rfl
  have hs2:∀(a:Addr) (fn:Fn) (f c:Array Value) (V:World),(store a (.func fn f c)).run Tryz.prog V=stored Tryz.prog V a (.func fn f c) .plain:=fun a fn f c V=>run_store _ _ _ _ _ rfl
  cases hf:bq x L with
  |none=>
   rw [hf] at HM
   go_enter Tryz.func31,Tryz.ntmps31
   go_wp2_with (refine fZ rfl _ _ 68 rfl 83 Tryz.underlying68 _ (FX _) g n _ rfl hm x rfl wY ?_;rw [HM.out])
   exact ⟨rfl,rfl,b2 _ _⟩
  |some y=>
   rw [hf] at HM
   go_enter Tryz.func31,Tryz.ntmps31
   go_wp2_with (refine fZ rfl _ _ 68 rfl 83 Tryz.underlying68 _ (FX _) g n _ rfl hm x rfl wY ?_;rw [HM.out])
   refine bodyPost_ret (v:=Dz y.1 y.2 cb) (by simp [results,Tryz.results31,go_sem]) rfl ⟨rfl,b2 _ _⟩
theorem FH.row {α:Type} {f:α→Value}{A:Nat→Prop}{w:World}{n0:Nat}{t:TypeId}{v:Value}{L:List α}(h:w.ownsRow n0 t 1 v L.length (L.map f)) (hA:∀i,A i→i<n0) (hn:n0≤w.heap.size):FH f A w v L:=by
 rcases h.2 with ⟨rfl,h0⟩|⟨g,cap,cur,rfl,hg0,hg,hc,_⟩
 ·have e0:L=[]:=List.eq_nil_of_length_eq_zero h0
  subst e0
  exact ⟨w.heap.size,0,none,0,rfl,Nat.le_refl _,fun h=>absurd rfl h,fun z=>by have:=hA _ z;omega,fun i hi=>by simp at hi⟩
 ·refine ⟨g,0,_,cap,rfl,hc,fun _=>rfl,fun z=>by have:=hA _ z;omega,fun i hi=>?_⟩
  have:=h.cells (g:=g) rfl i (f L[i]) (by simp [hi])
  rw [Nat.zero_add,←this]
  simp [Addr.add_lit]
def SO (A:Nat→Prop) (R:Bool→Int→World→Prop) (V:World) (y:Ending) (w':World):Prop:=∃z e,y=.returned (.tuple #[.bool z,aI e])∧R z e w'∧Wt A V w'
structure abI (w:World) (A:Nat→Prop) (cb kb:Nat) (p:Int) (ws:List az) (R:Bool→Int→World→Prop) (Post:Ending→World→Prop):Prop where
 sig:∀V,Below w.heap.size w V→Calls Tryz.prog 76 #[wp kb,.int .i64 p] V (SO A R V)
 no:∀V,Below w.heap.size w V→(ws=[]∨∃x rest,ws=x :: rest∧bq x df=none)→Post (thrown (eQ 3)) V
 err:∀x rest y,ws=x :: rest→bq x df=some y→∀V z e,e≠0→R z e V→Post (thrown (eQ e)) V
 ends:∀x rest y,ws=x :: rest→bq x df=some y→∀V,R true 0 V→Post (.returned (tx [101,110,100,101,100])) V
 form:∀x rest y,ws=x :: rest→bq x df=some y→gK y.1 rest=none→∀V0 V,R false 0 V0→Below V0.heap.size V0 V→Post (thrown (eQ 3)) V
 tell:∀x rest y ns ts on,ws=x :: rest→bq x df=some y→gK y.1 rest=some (ns,ts,on)→∀V0 V nv tv,R false 0 V0→Below V0.heap.size V0 V→V.ownsRow V0.heap.size 3 1 nv ns.length (ns.map (Value.int .i64))→V.ownsRow V0.heap.size 9 1 tv ts.length (ts.map fun x=>tx x)→
  Calls Tryz.prog y.2 #[wp cb,dR p x nv tv on] V fun e w'=>Post e w'∧((∃t,e=.returned (tx t))∨∃v,e=thrown v)
theorem wR {X:az×Nat→Prop}{x:az}{y:az×Nat}:∀ {L:Lm},(∀z∈L,X z.2)→bq x L=some y→X y:=fun {L}=>by
 induction L with
 |nil=>intro _ h;cases h
 |cons z L ih=>
  intro hL h
  unfold bq at h
  split at h
  ·cases h;exact hL z List.mem_cons_self
  ·exact ih (fun z hz=>hL z (List.mem_cons_of_mem _ hz)) h
def Entry (y:az×Nat):Prop:=(∀args w,(callFunc y.2 args).run Tryz.prog w=.ok (.enter y.2 args) w)∧y.1.length≤100
theorem Iz {x:az}{y:az×Nat}(h:bq x df=some y):Entry y:=by
 refine wR ?_ h
 unfold df
 repeat' first
  |exact fun z hz=>absurd hz List.not_mem_nil
  |refine List.forall_mem_cons.2 ⟨⟨fun args w=>by kernel_rfl,by decide⟩,?_⟩
theorem Fe {x:az}{y:az×Nat}(h:bq x dJ=some y):Entry y:=by
 refine wR ?_ h
 unfold dJ
 repeat' first
  |exact fun z hz=>absurd hz List.not_mem_nil
  |refine List.forall_mem_cons.2 ⟨⟨fun args w=>by kernel_rfl,by decide⟩,?_⟩
theorem Te {w:World}{A:Nat→Prop}{cb kb g:Nat}{p:Int}{v:Value}{ws:List az}{R:Bool→Int→World→Prop}{Post:Ending→World→Prop}(h:abI w A cb kb p ws R Post) (hlt:∀i,A i→i<w.heap.size) (hge:∀i,A i→9≤i) (gl:GL w) (hca:¬A cb) (c0:w.cell? ⟨cb,0,none⟩=some (wp kb)) (c2:w.cell? ⟨cb,2,none⟩=some (.map (some g))) (hT:TM w cb g df) (hw:WV w v ws) (dx:∀V,Wt A w V→WV V v ws) (hl:∀x∈ws,x.length≤100000) :
 Calls Tryz.prog 30 #[wp cb,.int .i64 p,v] w Post:=by
 have hF:=GV w hT hw hl
 have H:Aside _:=h
 cases ws with
 |nil=>
  clear h hlt hge gl hw dx hl hT
  go_enter Tryz.func30,Tryz.ntmps30
  go_wp2_with (go_at_call 31;refine hF.mono ?_;rintro e w1 ⟨rfl,b1⟩)
  exact ⟨rfl,H.out.no _ b1 (.inl rfl)⟩
 |cons x rest=>
  cases hf:bq x df with
  |none=>
   have hF2:Calls Tryz.prog 31 #[.map (some g),v] w fun e w'=>e=thrown (eQ 3)∧Below w.heap.size w w':=hF.mono fun e w' z=>⟨by have:=z.1;unfold yM at this;simp only [hf] at this;exact this,z.2⟩
   clear h hlt hge gl hw dx hl hT hF
   go_enter Tryz.func30,Tryz.ntmps30
   go_wp2_with (go_at_call 31;refine hF2.mono ?_;rintro e w1 ⟨rfl,b1⟩)
   exact ⟨rfl,H.out.no _ b1 (.inr ⟨x,rest,rfl,hf⟩)⟩
  |some y=>
   have hF2:Calls Tryz.prog 31 #[.map (some g),v] w fun e w'=>e=.returned (Dz y.1 y.2 cb)∧Below w.heap.size w w':=hF.mono fun e w' z=>⟨by have:=z.1;unfold yM at this;simp only [hf] at this;exact this,z.2⟩
   obtain ⟨ef,hfl⟩:=Iz hf
   have hx:=hl x List.mem_cons_self
   have hrl:∀z∈rest,z.length≤100000:=fun z hz=>hl z (List.mem_cons_of_mem _ hz)
   have HK:Aside (∀w1,Below w.heap.size w w1→∀V,Wt A (w1.alloc (.cells #[tx y.1,.func (.func y.2) #[wp cb] #[]] 83)) V→V.cell? ⟨w1.heap.size,0,none⟩=some (tx y.1)∧V.cell? ⟨w1.heap.size,1,none⟩=some (.func (.func y.2) #[wp cb] #[])∧w1.heap.size<V.heap.size∧∃ad cap,v=.slice ad (rest.length+1) cap∧Calls Tryz.prog 32 #[tx y.1,.slice ad (rest.length+1) cap] V (sU V V.heap.size x y.1 rest)):=fun w1 b1 V k=>by
    have hb:(w1.alloc (.cells #[tx y.1,.func (.func y.2) #[wp cb] #[]] 83)).heap[w1.heap.size]? = some (.cells #[tx y.1,.func (.func y.2) #[wp cb] #[]] 83):=by
     show (w1.heap.push _)[w1.heap.size]? = _;rw [Array.getElem?_push,if_pos rfl]
    have hn:¬A w1.heap.size:=fun z=>by have:=hlt _ z;have:=b1.size;omega
    have afG:w1.heap.size<(w1.alloc (.cells #[tx y.1,.func (.func y.2) #[wp cb] #[]] 83)).heap.size:=by simp
    have k0:Wt A w V:=(Wt.below A (b1.alloc b1.size _)).trans k
    obtain ⟨ad,cap,e,hc,hA⟩:=dx V k0
    refine ⟨k.cell (p:=⟨w1.heap.size,0,none⟩) (by rw [Lib.cell_of_heap hb];rfl) hn,k.cell (p:=⟨w1.heap.size,1,none⟩) (by rw [Lib.cell_of_heap hb];rfl) hn,Nat.lt_of_lt_of_le afG k.size,ad,cap,e,?_⟩
    exact Gr V (gl.wt k0 hge) y.1 x rest ad cap hA hfl (by rw [List.length_cons] at hc;omega) hrl
   have HS:Aside (∀w1,Below w.heap.size w w1→(w1.alloc (.cells #[tx y.1,.func (.func y.2) #[wp cb] #[]] 83)).cell? ⟨cb,0,none⟩=some (wp kb)∧Calls Tryz.prog 76 #[wp kb,.int .i64 p] (w1.alloc (.cells #[tx y.1,.func (.func y.2) #[wp cb] #[]] 83)) (SO A R (w1.alloc (.cells #[tx y.1,.func (.func y.2) #[wp cb] #[]] 83)))):=fun w1 b1=>
    ⟨(Wt.below A (b1.alloc b1.size _)).cell c0 hca,h.sig _ (b1.alloc b1.size _)⟩
   have hs1:∀(a:Addr) (V:World),(store a .nilFunc).run Tryz.prog V=stored Tryz.prog V a .nilFunc .plain:=fun a V=>run_store _ _ _ _ _ rfl
   have hs2:∀(a:Addr) (fn:Fn) (f c:Array Value) (V:World),(store a (.func fn f c)).run Tryz.prog V=stored Tryz.prog V a (.func fn f c) .plain:=fun a fn f c V=>run_store _ _ _ _ _ rfl
   have hK0:=zO
   have hK1:=zP
   have HR:=hf
   clear h hlt hge gl hw dx hl hT hF hfl hrl c0
   go_enter Tryz.func30,Tryz.ntmps30
   go_upto_region 3 with (first
    |(go_at_call 31;refine hF2.mono ?_;rintro e w1 ⟨rfl,b1⟩;obtain ⟨d0,hS1⟩:=HS.out w1 b1)
    |(go_at_call 76;refine hS1.mono ?_;rintro e w2 ⟨z,er,rfl,r1,k1⟩))
   obtain ⟨e0,e1,e2,ad,cap,ev,hP⟩:=HK.out w1 b1 w2 k1
   clear hF2 HK HS hS1 k1 d0 c2
   by_cases he:er=0
   ·subst he
    rw [aB]
    cases z with
    |true=>
     clear hP
     go_wp2_with (go_at_call 77;refine (hK0 _).mono ?_;rintro e w3 ⟨rfl,hw3⟩;subst w3)
     exact H.out.ends x rest y rfl HR w2 r1
    |false=>
     subst ev
     obtain ⟨B,hB⟩:∃B,w2.heap.size=B:=⟨_,rfl⟩
     cases hp:gK y.1 rest with
     |none=>
      have hP2:Calls Tryz.prog 32 #[tx y.1,.slice ad (rest.length+1) cap] w2 fun e w'=>e=thrown (eQ 3)∧Below w2.heap.size w2 w':=hP.mono fun e w' z=>⟨by have:=z.2;rw [hp] at this;exact this,z.1⟩
      clear hP
      go_wp2_with (first
       |(go_at_call 77;refine (hK0 _).mono ?_;rintro e w3 ⟨rfl,hw3⟩;subst w3)
       |(go_at_call 32;refine hP2.mono ?_;rintro e w4 ⟨rfl,b4⟩))
      exact ⟨rfl,H.out.form x rest y rfl HR hp w2 w4 r1 b4⟩
     |some q=>
      obtain ⟨ns,ts,on⟩:=q
      have hP2:Calls Tryz.prog 32 #[tx y.1,.slice ad (rest.length+1) cap] w2 fun e w'=>∃a1 a2 a3 c1 c2 c3,e=.returned (dR 0 x (.slice a1 a2 a3) (.slice c1 c2 c3) on)∧Below w2.heap.size w2 w'∧Aside (w'.ownsRow w2.heap.size 3 1 (.slice a1 a2 a3) ns.length (ns.map (Value.int .i64))∧w'.ownsRow w2.heap.size 9 1 (.slice c1 c2 c3) ts.length (ts.map fun x=>tx x)):=hP.mono fun e w' z=>by
       obtain ⟨b,z⟩:=z
       rw [hp] at z
       obtain ⟨nv,tv,e1,r1,r2⟩:=z
       obtain ⟨a1,a3,rfl,_⟩:=BO.row r1
       obtain ⟨c1,c3,rfl,_⟩:=TxV.row r2
       exact ⟨_,_,_,_,_,_,e1,b,r1,r2⟩
      clear hP
      go_upto_region 8 with (first
       |(go_at_call 77;refine (hK0 _).mono ?_;rintro e w3 ⟨rfl,hw3⟩;subst w3)
       |(go_at_call 32;refine hP2.mono ?_;rintro e w4 ⟨a1,a2,a3,c1,c2,c3,rfl,b4,HW⟩;have e9:w4.cell? ⟨w1.heap.size,1,none⟩=some (.func (.func y.2) #[wp cb] #[]):=(b4.cell (p:=⟨w1.heap.size,1,none⟩) e2).trans e1;have e8:w1.heap.size<w4.heap.size:=Nat.lt_of_lt_of_le e2 b4.size))
      have hT:=H.out.tell x rest y ns ts on rfl HR hp w2 (w4.alloc (.cells #[.int .i64 p,tx x,.slice a1 a2 a3,.slice c1 c2 c3,.bool on] 86)) (.slice a1 a2 a3) (.slice c1 c2 c3) r1 (b4.alloc b4.size _) (HW.out.1.alloc _) (HW.out.2.alloc _)
      clear hP2
      go_wp2_with (refine hT.mono ?_;rintro e w6 ⟨hP,⟨t,rfl⟩|⟨v9,rfl⟩⟩;rotate_left;exact ⟨rfl,hP⟩)
      exact hP
   ·have hK:=hK1 er
    rw [ax he]
    clear hP
    go_wp2_with (go_at_call 77;refine (hK _).mono ?_;rintro e w3 ⟨rfl,hw3⟩;subst w3)
    exact ⟨rfl,H.out.err x rest y rfl HR w2 z er he r1⟩
end Go.Proofs.YtippochapiolpaaGreatDoor
namespace Go.Proofs.YtippochapiolpaaGreatDoor
open Go.RowKit
theorem K6 (p:Addr) (w:World) :
 CallsD Tryz.prog 26 #[.pointer (some p)] .returning w fun e u' w'=>e=.returned (.tuple #[])∧u'=.returning∧w'=w:=by
 have hta:(Instr.typeAssert .nilIface 20 28 true).run Tryz.prog w=.ok (.tuple #[.nilIface,.bool false]) w:=by kernel_rfl
 have hrep:Array.replicate 10 undef=#[undef,undef,undef,undef,undef,undef,undef,undef,undef,undef]:=rfl
 refine callsD_of_wpS Tryz.func26 rfl fun c₀ cs hu=>?_
 apply wpS_seq
 apply wpS_region
 simp [wpOpsS,go_sem,recoverD,hu,Tryz.ntmps26,Exit.thenS,hta,hrep]
 refine wpS_of_wp ?_
 go_wp2_with fail
 exact ⟨rfl,.returning,by cases c₀;simp_all,_,results_none rfl _ _ _,rfl,rfl,rfl⟩
theorem Fg (p:Addr) (w:World) (T:TypeId) (x:Value) (t:az) (old:Value) (hta:(Instr.typeAssert (.iface T x) 20 28 true).run Tryz.prog w=.ok (.tuple #[.iface T x,.bool true]) w) (hR:Calls Tryz.prog 5 #[.iface T x] w fun e w'=>e=.returned (tx t)∧Below w.heap.size w w') (hc:w.cell? p=some old) (hz:w.frozen? p=false) :
 CallsD Tryz.prog 26 #[.pointer (some p)] (.panicking [{ v:=.iface T x,recovered:=false }]) w fun e u' w'=>e=.returned (.tuple #[])∧u'=.panicking [{ v:=.iface T x,recovered:=true }]∧∃V,Below w.heap.size w V∧w'=V.setCell p (tx t):=by
 have hrep:Array.replicate 10 undef=#[undef,undef,undef,undef,undef,undef,undef,undef,undef,undef]:=rfl
 refine callsD_of_wpS Tryz.func26 rfl fun c₀ cs hu=>?_
 apply wpS_seq
 apply wpS_region
 simp [wpOpsS,go_sem,recoverD,hu,Tryz.ntmps26,Exit.thenS,hta,hrep]
 refine wpS_of_wp ?_
 have hpl:=World.block_lt_of_cell? w _ hc
 go_wp2_with (go_at_call 5;refine hR.mono ?_;rintro e w1 ⟨rfl,b1⟩;have hc1:=(b1.cell hpl).trans hc;have hz1:=(b1.frozen hpl).trans hz)
 exact ⟨rfl,_,rfl,_,results_none rfl _ _ _,rfl,rfl,w1,b1,rfl⟩
end Go.Proofs.YtippochapiolpaaGreatDoor
namespace Go.Proofs.YtippochapiolpaaGreatDoor
open Go.RowKit Go.Maps
inductive wZ
 |say (t:az)
 |bad (c:Int)
 |lost (L:List Int) (c:Int)
def gy:wZ→az
 |.say t=>t
 |.bad c=>vX c
 |.lost L c=>Lp L c
def xV (w:World):wZ→Ending→Prop
 |.say t,e=>e=.returned (tx t)
 |.bad c,e=>e=thrown (eQ c)∧dH c
 |.lost L c,e=>∃ad cap,e=thrown (FN ad L.length cap c)∧pV w ad L∧L.length≤1000∧(∀n∈L,dH n)∧dH c
def nk (n:Nat) (V w':World):Prop:=(∀i,n≤i→i<V.heap.size→w'.heap[i]? = V.heap[i]?)∧V.heap.size≤w'.heap.size∧GL w'
abbrev DW (r:Nat):List Deferred:=[{ target:=Target.fn (Fn.func 26) #[wp r],args:=#[] }]
section
variable {R:Ending→World→Prop}{tmps:Array Value}{rb:Nat}{t:az}{V:World}
theorem RO (ht:tmps[4]? = some (wp rb)) (hc:V.cell? ⟨rb,0,none⟩=some (tx t)):(results Tryz.f10 tmps).run Tryz.prog V=.ok (tx t) V:=by
 have e:tmps.getD 4 undef=wp rb:=by rw [Array.getD_eq_getD_getElem?,ht];rfl
 simp [results,Tryz.results10,go_sem,ht,hc]
theorem vk (ht:tmps[4]? = some (wp rb)) (hc:V.cell? ⟨rb,0,none⟩=some (tx t)) (h:R (.returned (tx t)) V):bodyPostD Tryz.prog Tryz.f10 R .ret { tmps:=tmps,defers:=DW rb } V:=by
 refine leaves_cons (f:=26) (args:=#[wp rb]) (by simp) (by simp [go_sem]) ?_
 refine (K6 ⟨rb,0,none⟩ V).mono ?_
 rintro e u' w'' ⟨rfl,rfl,rfl⟩
 exact ⟨_,RO ht hc,h⟩
theorem AX {T:TypeId}{x:Value}(ht:tmps[4]? = some (wp rb)) {old:Value}(hc:V.cell? ⟨rb,0,none⟩=some old) (hz:V.frozen? ⟨rb,0,none⟩=false) (hta:(Instr.typeAssert (.iface T x) 20 28 true).run Tryz.prog V=.ok (.tuple #[.iface T x,.bool true]) V)
 (hR:Calls Tryz.prog 5 #[.iface T x] V fun e w'=>e=.returned (tx t)∧Below V.heap.size V w') (h:∀V',Below V.heap.size V V'→R (.returned (tx t)) (V'.setCell ⟨rb,0,none⟩ (tx t))) :
 bodyPostD Tryz.prog Tryz.f10 R (.panic [{ v:=.iface T x,recovered:=false }]) { tmps:=tmps,defers:=DW rb } V:=by
 refine leaves_cons (f:=26) (args:=#[wp rb]) (by simp) (by simp [go_sem]) ?_
 refine (Fg ⟨rb,0,none⟩ V T x t old hta hR hc hz).mono ?_
 rintro e u' w'' ⟨rfl,rfl,V',b,rfl⟩
 have hl:=World.block_lt_of_cell? V _ hc
 have hc':V'.cell? ⟨rb,0,none⟩=some old:=(b.cell hl).trans hc
 exact ⟨_,RO ht (World.cell?_setCell_same' _ _ _ (by rw [hc'];rfl)),h V' b⟩
theorem IL (c:Int) (V:World):(Instr.typeAssert (eQ c) 20 28 true).run Tryz.prog V=.ok (.tuple #[eQ c,.bool true]) V:=by kernel_rfl
theorem Fh (x:Value) (V:World):(Instr.typeAssert (.iface 48 x) 20 28 true).run Tryz.prog V=.ok (.tuple #[.iface 48 x,.bool true]) V:=by kernel_rfl
theorem vo {r:wZ}{v:Value}(g:GL V) (ht:tmps[4]? = some (wp rb)) {old:Value}(hc:V.cell? ⟨rb,0,none⟩=some old) (hz:V.frozen? ⟨rb,0,none⟩=false) (hr:xV V r (thrown v)) (h:∀V',Below V.heap.size V V'→R (.returned (tx (gy r))) (V'.setCell ⟨rb,0,none⟩ (tx (gy r)))) :
 bodyPostD Tryz.prog Tryz.f10 R (.panic [{ v:=v,recovered:=false }]) { tmps:=tmps,defers:=DW rb } V:=by
 cases r with
 |say t=>cases hr
 |bad c=>
  obtain ⟨e,h1⟩:=hr
  cases e
  exact AX ht hc hz (IL c V) (Ib V g.pow g.er c h1) h
 |lost L c=>
  obtain ⟨ad,cap,e,h1,h2,h3,h4⟩:=hr
  cases e
  exact AX ht hc hz (Fh _ V) (ER V g.pow g.er c h4 ad L cap h1 h2 h3) h
end
end Go.Proofs.YtippochapiolpaaGreatDoor
namespace Go.Proofs.YtippochapiolpaaGreatDoor
open Go.RowKit
def Qm (Q:Exit→Act→World→Prop) (s:Nat) (p:Value) (ds:List Deferred) (PP:List PanicEntry→World→Prop):Exit→Act→World→Prop
 |.panic c,a,w=>a.tmps[s]? = some p∧a.defers=ds∧PP c w
 |.normal,a,w=>Q .normal a w
 |_,_,_=>False
section
variable {P:Program}{Q:Exit→Act→World→Prop}{s:Nat}{p:Value}{ds:List Deferred}{PP:List PanicEntry→World→Prop}
theorem Qm.put {d:Nat}(hd:d≠s) (v:Value):∀c a w,Qm Q s p ds PP (.panic c) (a.put (some d) v) w→Qm Q s p ds PP (.panic c) a w:=fun c a w h=>by
 obtain ⟨h1,h2,h3⟩:=h
 refine ⟨?_,h2,h3⟩
 rw [←h1]
 show a.tmps[s]? = (a.tmps.setIfInBounds d v)[s]?
 rw [Array.getElem?_setIfInBounds_ne hd]
theorem Qm.normal {a:Act}{w:World}(h:Q .normal a w):Qm Q s p ds PP .normal a w:=h
theorem EN {id:Nat}{ops:Array Oper}{a:Act}{w:World}{S:World→Prop}(PP:List PanicEntry→World→Prop) (hm:P.follows .mixedOrders=true) (hS:S w.drew) (hq:∀c tmps V,tmps[s]? = some p→PP c V→Q (.panic c) { tmps:=tmps,defers:=ds } V)
 (h:S w.drew→wpAnyH P .any ops (Qm Q s p ds PP) S ops.size (Array.replicate ops.size false) a w.drew):(Code.region id ops true).wp P Q a w:=by
 refine Code.wp_mono (Q:=Qm Q s p ds PP) (fun e a' V hh=>?_) (wp_region_held_drew hm hS h)
 cases e with
 |panic c=>
  obtain ⟨h1,h2,h3⟩:=hh
  have e:a'={ tmps:=a'.tmps,defers:=ds }:=by rw [←h2]
  rw [e]
  exact hq c a'.tmps V h1 h3
 |normal=>exact hh
 |_=>exact hh.elim
end
end Go.Proofs.YtippochapiolpaaGreatDoor
namespace Go.Proofs.YtippochapiolpaaGreatDoor
open Go.RowKit Go.Maps
structure Nc (w:World) (cb:Nat) (line:az) (PR:wZ→World→Prop):Prop where
 cl:∀r V V',PR r V→Wt (fun i=>i=w.heap.size) V V'→PR r V'
 gl:GL w
 big:9≤w.heap.size
 tab:∃g,w.cell? ⟨cb,1,none⟩=some (.map (some g))∧TM w cb g dJ
 empty:bJ line=[]→∀V,Below w.heap.size w V→PR (.say [111,107]) V
 serve:∀x rest p,bJ line=x :: rest→gQ x=some p→∀V v,Below w.heap.size w V→w.heap.size<V.heap.size→YP (fun i=>i<w.heap.size) V v rest→Calls Tryz.prog 30 #[wp cb,.int .i64 p,v] V fun e w'=>∃r,xV w' r e∧PR r w'∧nk w.heap.size V w'
 bad:(∃x rest,bJ line=x :: rest∧gQ x=none∧(bq x dJ=none∨∃y,bq x dJ=some y∧gK y.1 rest=none))→∀V,Below w.heap.size w V→PR (.bad 3) V
 tell:∀x rest y ns ts on,bJ line=x :: rest→gQ x=none→bq x dJ=some y→gK y.1 rest=some (ns,ts,on)→∀V nv tv,Below w.heap.size w V→w.heap.size<V.heap.size→V.ownsRow w.heap.size 3 1 nv ns.length (ns.map (Value.int .i64))→V.ownsRow w.heap.size 9 1 tv ts.length (ts.map fun x=>tx x)→
  Calls Tryz.prog y.2 #[wp cb,dR 0 x nv tv on] V fun e w'=>∃r,xV w' r e∧PR r w'∧nk w.heap.size V w'
theorem vg {w:World}{r:wZ}{e:Ending}(h:xV w r e):(∃t,r=.say t∧e=.returned (tx t))∨∃v,e=thrown v:=by
 cases r with
 |say t=>exact .inl ⟨t,rfl,h⟩
 |bad c=>exact .inr ⟨_,h.1⟩
 |lost L c=>obtain ⟨ad,cap,e,_⟩:=h;exact .inr ⟨_,e⟩
theorem nk.at {n rb:Nat}{V w':World}(h:nk n V w') (hr:n≤rb) {v:Value}(hc:V.cell? ⟨rb,0,none⟩=some v) (hz:V.frozen? ⟨rb,0,none⟩=false):w'.cell? ⟨rb,0,none⟩=some v∧w'.frozen? ⟨rb,0,none⟩=false:=by
 have e:=h.1 rb hr (World.block_lt_of_cell? V _ hc)
 exact ⟨(World.cell?_of_block (w:=V) (a:=⟨rb,0,none⟩) e).trans hc,(World.frozen?_of_block (w:=V) (a:=⟨rb,0,none⟩) e).trans hz⟩
theorem Z6 {V V':World}{rb:Nat}(b:Below V.heap.size V V') (x:Value):Wt (fun i=>i=rb) V (V'.setCell ⟨rb,0,none⟩ x):=
 ⟨b.os,b.tape,b.output,by simpa [World.setCell] using b.size,fun i hi hn=>(Below.heap_setCell _ _ _ _ hn).trans (b.block i hi)⟩
def YF (PR:wZ→World→Prop) (rb:Nat) (c:List PanicEntry) (V:World):Prop:=∃v r,c=[{ v:=v,recovered:=false }]∧xV V r (thrown v)∧GL V∧V.cell? ⟨rb,0,none⟩=some (tx [])∧V.frozen? ⟨rb,0,none⟩=false∧PR r V
theorem Qt {w:World}{cb:Nat}{line:az}{PR:wZ→World→Prop}(h:Nc w cb line PR) (hl:line.length≤100000) :
 Calls Tryz.prog 10 #[wp cb,tx line] w fun e w'=>∃r,e=.returned (tx (gy r))∧PR r w':=by
 have hmf:∀(fn:Fn) (first cap:Array Value) (w:World),(Instr.makeFunc fn first cap).run Tryz.prog w=.ok (.func fn first cap) w:=fun _ _ _ _=>rfl
 have H:Aside _:=h
 have bA:Below w.heap.size w (w.alloc (.cells #[.string { data:=#[] }] 9)):=(Below.refl _ _).alloc (Nat.le_refl _) _
 obtain ⟨rb,hrb⟩:∃rb,w.heap.size=rb:=⟨_,rfl⟩
 obtain ⟨wA,dx⟩:∃wA,w.alloc (.cells #[.string { data:=#[] }] 9)=wA:=⟨_,rfl⟩
 have hrc:wA.cell? ⟨rb,0,none⟩=some (tx []):=by rw [←dx,←hrb];exact World.cell?_alloc_at _ _ _ _ rfl
 have hrz:wA.frozen? ⟨rb,0,none⟩=false:=by rw [←dx,←hrb];simp
 rw [dx] at bA
 have HB:Aside (∀V,Below wA.heap.size wA V→Below w.heap.size w V∧V.cell? ⟨rb,0,none⟩=some (tx [])∧V.frozen? ⟨rb,0,none⟩=false∧rb<V.heap.size):=fun V b=>by
  have hlt:=World.block_lt_of_cell? wA _ hrc
  exact ⟨bA.trans (b.mono bA.size),(b.cell hlt).trans hrc,(b.frozen hlt).trans hrz,Nat.lt_of_lt_of_le hlt b.size⟩
 have HC:Aside (∀r V V' x,PR r V→Below V.heap.size V V'→PR r (V'.setCell ⟨rb,0,none⟩ x)):=fun r V V' x hp b=>h.cl r V _ hp (by rw [hrb];exact Z6 b x)
 have hW:=Su line hl wA
 have HWl:Aside (∀x∈bJ line,x.length≤100000):=fun x hx=>Nat.le_trans (zl hx) hl
 cases hws:bJ line with
 |nil=>
  rw [hws] at hW
  clear h hrc hrz
  go_enter_defers Tryz.func10,Tryz.ntmps10
  go_upto_region 2 with fail
  clear dx
  go_wp2_with (go_at_call 27;refine hW.mono ?_;rintro e w1 ⟨A,rfl,hT,hA,b1⟩;obtain ⟨b9,hc1,hz1,hr9⟩:=HB.out w1 b1)
  refine vk rfl (World.cell?_setCell_same' _ _ _ (by rw [hc1];rfl)) ⟨.say [111,107],rfl,HC.out _ w1 w1 _ (H.out.empty hws w1 b9) (Below.refl _ _)⟩
 |cons x rest=>
  rw [hws] at hW HWl
  have hx:=HWl.out x List.mem_cons_self
  cases hn:gQ x with
  |some p=>
   have HP:Aside (∀V,GL V→Calls Tryz.prog 29 #[tx x] V fun e w'=>e=.returned (.tuple #[.int .i64 p,.bool true])∧Below V.heap.size V w'):=fun V g=>(wJ x hx V g).mono fun e w' hh=>by
    obtain ⟨z,e1,e2,b⟩:=hh
    rw [hn] at e1 e2
    exact ⟨by rw [e1,e2 p rfl];rfl,b⟩
   have hS:=fun V v=>H.out.serve x rest p hws hn V v
   have HS:Aside _:=hS
   clear hS h hrc hrz
   go_enter_defers Tryz.func10,Tryz.ntmps10
   go_upto_region 2 with fail
   clear dx
   go_upto_region 5 with (go_at_call 27;refine hW.mono ?_;rintro e w1 ⟨A,rfl,hT,hA,b1⟩;obtain ⟨b9,hc1,hz1,hr9⟩:=HB.out w1 b1)
   have cx:w1.cell? ⟨A,0,none⟩=some (tx x):=by
    rcases hT with h9|⟨blk,off,e9,_,hcs⟩
    ·cases h9
    ·cases e9;exact hcs 0 (by simp)
   have hN:=HP.out w1 (H.out.gl.below b9)
   go_upto_region 7 with (go_at_call 29;refine hN.mono ?_;rintro e w2 ⟨rfl,b2⟩;obtain ⟨b8,hc2,hz2,hr8⟩:=HB.out w2 (b1.trans (b2.mono b1.size)))
   have hrA:w.heap.size≤A:=Nat.le_trans bA.size hA
   have hSv:∀ad,(rest≠[]→ad=some ⟨A,1,none⟩)→Calls Tryz.prog 30 #[wp cb,.int .i64 p,.slice ad rest.length rest.length] w2 fun e w'=>∃r,xV w' r e∧PR r w'∧nk w.heap.size w2 w':=fun ad had=>HS.out w2 _ b8 (by omega) ⟨A,1,ad,rest.length,rfl,Nat.le_refl _,had,by omega,fun i hi=>by
    rcases hT with h9|⟨blk,off,e9,hbl,hcs⟩
    ·cases h9
    ·cases e9
     have:=hcs (i+1) (by simp;omega)
     rw [Nat.zero_add] at this
     rw [show 1+i=i+1 by omega,b2.cell (p:=⟨A,i+1,none⟩) hbl,this];rfl⟩
   clear HS hW cx hN
   by_cases hre:rest=[]
   ·have hS0:=hSv (some ⟨A,0,none⟩) (fun hne=>absurd hre hne)
    clear hSv hT
    subst hre
    go_wp2_with (go_at_call 30;refine hS0.mono ?_;rintro e w3 ⟨r,hE,YN,hK⟩;obtain ⟨hc3,hz3⟩:=hK.at (by omega) hc2 hz2;obtain ⟨t,rfl,rfl⟩|⟨v9,rfl⟩:=vg hE;rotate_left;exact vo hK.2.2 rfl hc3 hz3 hE (fun V' b=>⟨r,rfl,HC.out r w3 V' _ YN b⟩))
    exact vk rfl (World.cell?_setCell_same' _ _ _ (by rw [hc3];rfl)) ⟨.say t,rfl,HC.out _ w3 w3 _ YN (Below.refl _ _)⟩
   ·have hS0:=hSv (some ⟨A,1,none⟩) (fun _=>rfl)
    clear hSv hT
    go_wp2_with (go_at_call 30;refine hS0.mono ?_;rintro e w3 ⟨r,hE,YN,hK⟩;obtain ⟨hc3,hz3⟩:=hK.at (by omega) hc2 hz2;obtain ⟨t,rfl,rfl⟩|⟨v9,rfl⟩:=vg hE;rotate_left;exact vo hK.2.2 rfl hc3 hz3 hE (fun V' b=>⟨r,rfl,HC.out r w3 V' _ YN b⟩))
    exact vk rfl (World.cell?_setCell_same' _ _ _ (by rw [hc3];rfl)) ⟨.say t,rfl,HC.out _ w3 w3 _ YN (Below.refl _ _)⟩
  |none=>
   have HP:Aside (∀V,GL V→Calls Tryz.prog 29 #[tx x] V fun e w'=>∃z,e=.returned (.tuple #[.int .i64 z,.bool false])∧Below V.heap.size V w'):=fun V g=>(wJ x hx V g).mono fun e w' hh=>by
    obtain ⟨z,e1,e2,b⟩:=hh
    rw [hn] at e1
    exact ⟨z,e1,b⟩
   obtain ⟨gt,ct,hT1⟩:=h.tab
   have HF:Aside (∀V,Below w.heap.size w V→V.cell? ⟨cb,1,none⟩=some (.map (some gt))∧∀v,WV V v (x :: rest)→Calls Tryz.prog 31 #[.map (some gt),v] V fun e w'=>yM cb dJ (x :: rest) e∧Below V.heap.size V w'):=fun V b=>
    ⟨(b.cell (p:=⟨cb,1,none⟩) (World.block_lt_of_cell? w _ ct)).trans ct,fun v hv=>GV V (hT1.keep (b.block gt hT1.lt)) hv HWl.out⟩
   clear h hrc hrz hT1
   go_enter_defers Tryz.func10,Tryz.ntmps10
   go_upto_region 2 with fail
   clear dx
   go_upto_region 5 with (go_at_call 27;refine hW.mono ?_;rintro e w1 ⟨A,rfl,hT,hA,b1⟩;obtain ⟨b9,hc1,hz1,hr9⟩:=HB.out w1 b1)
   have cx:w1.cell? ⟨A,0,none⟩=some (tx x):=by
    rcases hT with h9|⟨blk,off,e9,_,hcs⟩
    ·cases h9
    ·cases e9;exact hcs 0 (by simp)
   have hN:=HP.out w1 (H.out.gl.below b9)
   have hWV:∀V,Below w1.heap.size w1 V→WV V (.slice (some ⟨A,0,none⟩) (rest.length+1) (rest.length+1)) (x :: rest):=fun V b=>⟨_,_,rfl,by simp,hT.below b⟩
   have HV:Aside _:=hWV
   clear hWV hT hW
   go_upto_region 8 with (go_at_call 29;refine hN.mono ?_;rintro e w2 ⟨z,rfl,b2⟩;obtain ⟨b8,hc2,hz2,hr8⟩:=HB.out w2 (b1.trans (b2.mono b1.size));obtain ⟨ct2,hF⟩:=HF.out w2 b8)
   have hFd:=hF _ (HV.out w2 b2)
   clear hF hN HP
   cases Vw:bq x dJ with
   |none=>
    have hF2:Calls Tryz.prog 31 #[.map (some gt),.slice (some ⟨A,0,none⟩) (rest.length+1) (rest.length+1)] w2 fun e w'=>e=thrown (eQ 3)∧Below w2.heap.size w2 w':=hFd.mono fun e w' z=>⟨by have:=z.1;unfold yM at this;simp only [Vw] at this;exact this,z.2⟩
    clear hFd
    go_wp2_with (go_at_call 31;refine hF2.mono ?_;rintro e w3 ⟨rfl,b3⟩;obtain ⟨b7,hc3,hz3,hr7⟩:=HB.out w3 (b1.trans ((b2.trans (b3.mono b2.size)).mono b1.size)))
    exact vo (r:=.bad 3) (H.out.gl.below b7) rfl hc3 hz3 ⟨rfl,by unfold dH;omega⟩ (fun V' b=>⟨.bad 3,rfl,HC.out _ w3 V' _ (H.out.bad ⟨x,rest,hws,hn,.inl Vw⟩ w3 b7) b⟩)
   |some y=>
    have hF2:Calls Tryz.prog 31 #[.map (some gt),.slice (some ⟨A,0,none⟩) (rest.length+1) (rest.length+1)] w2 fun e w'=>e=.returned (Dz y.1 y.2 cb)∧Below w2.heap.size w2 w':=hFd.mono fun e w' z=>⟨by have:=z.1;unfold yM at this;simp only [Vw] at this;exact this,z.2⟩
    clear hFd
    have hs1:∀(a:Addr) (V:World),(store a .nilFunc).run Tryz.prog V=stored Tryz.prog V a .nilFunc .plain:=fun a V=>run_store _ _ _ _ _ rfl
    have hs2:∀(a:Addr) (fn:Fn) (f c:Array Value) (V:World),(store a (.func fn f c)).run Tryz.prog V=stored Tryz.prog V a (.func fn f c) .plain:=fun a fn f c V=>run_store _ _ _ _ _ rfl
    go_upto_region 9 with (go_at_call 31;refine hF2.mono ?_;rintro e w3 ⟨rfl,b3⟩;obtain ⟨b7,hc3,hz3,hr7⟩:=HB.out w3 (b1.trans ((b2.trans (b3.mono b2.size)).mono b1.size)))
    obtain ⟨ef,hfl⟩:=Fe Vw
    have b6:Below w3.heap.size w3 (w3.alloc (.cells #[tx y.1,.func (.func y.2) #[wp cb] #[]] 83)):=(Below.refl _ _).alloc (Nat.le_refl _) _
    obtain ⟨x8,hx8⟩:∃x8,w3.heap.size=x8:=⟨_,rfl⟩
    obtain ⟨w4,hw4⟩:∃w4,w3.alloc (.cells #[tx y.1,.func (.func y.2) #[wp cb] #[]] 83)=w4:=⟨_,rfl⟩
    have hbx:w4.heap[x8]? = some (.cells #[tx y.1,.func (.func y.2) #[wp cb] #[]] 83):=by
     rw [←hw4,←hx8];show (w3.heap.push _)[w3.heap.size]? = _;rw [Array.getElem?_push,if_pos rfl]
    rw [hw4] at b6
    have b17:Below w1.heap.size w1 w4:=b2.trans ((b3.trans (b6.mono b3.size)).mono b2.size)
    obtain ⟨b05,hc4,hz4,hr4⟩:=HB.out w4 (b1.trans (b17.mono b1.size))
    have d0:w4.cell? ⟨x8,0,none⟩=some (tx y.1):=by rw [Lib.cell_of_heap hbx];rfl
    have d1:w4.cell? ⟨x8,1,none⟩=some (.func (.func y.2) #[wp cb] #[]):=by rw [Lib.cell_of_heap hbx];rfl
    have acB:x8<w4.heap.size:=(Array.getElem?_eq_some_iff.1 hbx).1
    have hP:Calls Tryz.prog 32 #[tx y.1,.slice (some ⟨A,0,none⟩) (rest.length+1) (rest.length+1)] w4.drew (sU w4.drew w4.drew.heap.size x y.1 rest):=by
     obtain ⟨ad,cap,e,hc,QI⟩:=HV.out w4.drew b17.drew
     cases e
     exact Gr w4.drew (H.out.gl.below b05.drew) y.1 x rest (some ⟨A,0,none⟩) _ QI hfl (Nat.lt_succ_self _) (fun z hz=>HWl.out z (List.mem_cons_of_mem _ hz))
    show Code.wp _ _ _ _ (w3.alloc (.cells #[tx y.1,.func (.func y.2) #[wp cb] #[]] 83))
    rw [hw4,hx8]
    have acA:w.heap.size≤x8:=by have:=b7.size;omega
    have hrx:rb<x8:=by omega
    clear hw4 hx8 b6 hbx hF2 hs1 hs2 HF ct ct2 cx
    refine EN (s:=4) (p:=wp rb) (ds:=DW rb) (S:=fun w'=>w'.cell? ⟨x8,0,none⟩=some (tx y.1)∧w'.cell? ⟨x8,1,none⟩=some (.func (.func y.2) #[wp cb] #[])) (YF PR rb) (by kernel_rfl) ⟨d0,d1⟩ ?_ (fun hS=>?_)
    ·rintro c tm V ht ⟨v,r,rfl,hE,gV,hcV,hzV,hp⟩
     exact vo gV ht hcV hzV hE (fun V' b=>⟨r,rfl,HC.out r V V' _ hp b⟩)
    refine wpAnyH_take (i:=0) (v:=?_) rfl (by kernel_rfl) (by kernel_rfl) (by kernel_rfl) (Qm.put (by decide) _) (.inl ⟨by rfl,?_⟩) (by assumption) ?_
    rotate_left
    ·intro W hW
     try dsimp only at hW
     go_simp
     with_reducible rfl
    try simp only [Act.put,List.getElem_toArray,List.getElem_cons_zero,List.setIfInBounds_toArray,List.set_cons_zero,List.set_cons_succ]
    refine wpAnyH_take (i:=1) (v:=?_) rfl (by kernel_rfl) (by kernel_rfl) (by kernel_rfl) (Qm.put (by decide) _) (.inl ⟨by rfl,?_⟩) (by assumption) ?_
    rotate_left
    ·intro W hW
     try dsimp only at hW
     go_simp
     with_reducible rfl
    try simp only [Act.put,List.getElem_toArray,List.getElem_cons_zero,List.getElem_cons_succ,List.setIfInBounds_toArray,List.set_cons_zero,List.set_cons_succ]
    refine wpAnyH_take (i:=2) (v:=?_) rfl (by kernel_rfl) (by kernel_rfl) (by kernel_rfl) (Qm.put (by decide) _) (.inl ⟨by rfl,?_⟩) (by assumption) ?_
    rotate_left
    ·intro W hW
     try dsimp only at hW
     go_simp
     with_reducible rfl
    try simp only [Act.put,List.getElem_toArray,List.getElem_cons_zero,List.getElem_cons_succ,List.setIfInBounds_toArray,List.set_cons_zero,List.set_cons_succ]
    refine wpAnyH_take (i:=3) (v:=?_) rfl (by kernel_rfl) (by kernel_rfl) (by kernel_rfl) (Qm.put (by decide) _) (.inl ⟨by rfl,?_⟩) (by assumption) ?_
    rotate_left
    ·intro W hW
     try dsimp only at hW
     go_simp
     with_reducible rfl
    try simp only [Act.put,List.getElem_toArray,List.getElem_cons_zero,List.getElem_cons_succ,List.setIfInBounds_toArray,List.set_cons_zero,List.set_cons_succ]
    refine wpAnyH_take (i:=4) (v:=?_) rfl (by kernel_rfl) (by kernel_rfl) (by kernel_rfl) (Qm.put (by decide) _) (.inl ⟨by rfl,?_⟩) (by assumption) ?_
    rotate_left
    ·intro W hW
     try dsimp only at hW
     go_simp
     with_reducible rfl
    try simp only [Act.put,List.getElem_toArray,List.getElem_cons_zero,List.getElem_cons_succ,List.setIfInBounds_toArray,List.set_cons_zero,List.set_cons_succ]
    have HE:Aside (∀V,Below w4.drew.heap.size w4.drew V→Below w.heap.size w V∧V.cell? ⟨rb,0,none⟩=some (tx [])∧V.frozen? ⟨rb,0,none⟩=false∧rb<V.heap.size):=fun V b=>HB.out V (b1.trans ((b17.drew.trans (b.mono b17.size)).mono b1.size))
    cases hp:gK y.1 rest with
    |none=>
     have hP2:Calls Tryz.prog 32 #[tx y.1,.slice (some ⟨A,0,none⟩) (rest.length+1) (rest.length+1)] w4.drew fun e w'=>e=thrown (eQ 3)∧Below w4.drew.heap.size w4.drew w':=hP.mono fun e w' z=>⟨by have:=z.2;rw [hp] at this;exact this,z.1⟩
     clear hP
     refine wpAnyH_ready (rs:=[5]) (by kernel_rfl) (by simp) ?_
     refine AllReadyH.cons rfl (fun K hK=>?_) AllReadyH.nil
     go_simp
     refine hP2.mono ?_
     rintro e w5 ⟨rfl,b5⟩
     obtain ⟨VO,hc5,hz5,hr5⟩:=HE.out w5 b5
     exact ⟨rfl,rfl,eQ 3,.bad 3,rfl,⟨rfl,by unfold dH;omega⟩,H.out.gl.below VO,hc5,hz5,H.out.bad ⟨x,rest,hws,hn,.inr ⟨y,Vw,hp⟩⟩ w5 VO⟩
    |some q=>
     obtain ⟨ns,ts,on⟩:=q
     have hP2:Calls Tryz.prog 32 #[tx y.1,.slice (some ⟨A,0,none⟩) (rest.length+1) (rest.length+1)] w4.drew fun e w'=>∃nv tv,e=.returned (dR 0 x nv tv on)∧Below w4.drew.heap.size w4.drew w'∧w'.ownsRow w4.drew.heap.size 3 1 nv ns.length (ns.map (Value.int .i64))∧w'.ownsRow w4.drew.heap.size 9 1 tv ts.length (ts.map fun x=>tx x):=hP.mono fun e w' z=>by
      obtain ⟨b,z⟩:=z
      rw [hp] at z
      obtain ⟨nv,tv,e1,r1,r2⟩:=z
      exact ⟨_,_,e1,b,r1,r2⟩
     clear hP
     refine wpAnyH_ready (rs:=[5]) (by kernel_rfl) (by simp) ?_
     refine AllReadyH.cons rfl (fun K hK=>?_) AllReadyH.nil
     go_simp
     refine hP2.mono ?_
     rintro e w5 ⟨nv,tv,rfl,b5,r1,r2⟩
     obtain ⟨VO,hc5,hz5,hr5⟩:=HE.out w5 b5
     have acD:w.heap.size≤w4.drew.heap.size:=b05.size
     have hT:=H.out.tell x rest y ns ts on hws hn Vw hp w5 nv tv VO (by omega) (uU r1 acD) (uU r2 acD)
     refine hK.out _ _ ⟨(b5.cell (p:=⟨x8,0,none⟩) acB).trans hS.1,(b5.cell (p:=⟨x8,1,none⟩) acB).trans hS.2⟩ (fun hS5=>?_)
     clear hK hP2
     refine wpAnyH_ready (rs:=[6]) (by kernel_rfl) (by simp) ?_
     refine AllReadyH.cons rfl (fun K2 hK2=>?_) AllReadyH.nil
     go_simp
     refine hT.mono ?_
     rintro e w6 ⟨r,hE,YN,hK6⟩
     obtain ⟨hc6,hz6⟩:=hK6.at (by omega) hc5 hz5
     have acH:x8<w5.heap.size:=World.block_lt_of_cell? w5 _ hS5.1
     have hS6:w6.cell? ⟨x8,0,none⟩=some (tx y.1)∧w6.cell? ⟨x8,1,none⟩=some (.func (.func y.2) #[wp cb] #[]):=
      ⟨(World.cell?_of_block (w:=w5) (a:=⟨x8,0,none⟩) (hK6.1 x8 acA acH)).trans hS5.1,(World.cell?_of_block (w:=w5) (a:=⟨x8,1,none⟩) (hK6.1 x8 acA acH)).trans hS5.2⟩
     have hne:¬rb=x8:=by omega
     obtain ⟨t,rfl,rfl⟩|⟨v9,rfl⟩:=vg hE
     ·refine hK2.out _ _ hS6 (fun _=>?_)
      clear hK2
      refine wpAnyH_ready (rs:=[7]) (by kernel_rfl) (by simp) ?_
      refine AllReadyH.cons rfl (fun K3 hK3=>?_) AllReadyH.nil
      go_simp
      refine hK3.out _ _ ⟨(World.cell?_setCell_other _ _ _ _ (fun e=>hne (congrArg Addr.block e))).trans hS6.1,(World.cell?_setCell_other _ _ _ _ (fun e=>hne (congrArg Addr.block e))).trans hS6.2⟩ (fun _=>?_)
      clear hK3
      refine wpAnyH_done (by kernel_rfl) ?_ _
      refine Qm.normal ?_
      go_wp2_with fail
      exact vk rfl (World.cell?_setCell_same' _ _ _ (by rw [hc6];rfl)) ⟨.say t,rfl,HC.out _ w6 w6 _ YN (Below.refl _ _)⟩
     ·exact ⟨rfl,rfl,v9,r,rfl,hE,hK6.2.2,hc6,hz6,YN⟩
end Go.Proofs.YtippochapiolpaaGreatDoor
namespace Go.Proofs.YtippochapiolpaaGreatDoor
open Go.RowKit
def XN (k:Nat) (A:Nat→Prop) (R:List Int→Int→World→Prop) (V:World) (y:Ending) (w':World):Prop:=∃L e,y=.returned (.tuple ((L.map (Value.int .i64)) ++ [aI e]).toArray)∧L.length=k∧(e=0→∀n∈L,dH n)∧R L e w'∧Wt A V w'
theorem XN.one {A:Nat→Prop}{R:List Int→Int→World→Prop}{V w':World}{y:Ending}(h:XN 1 A R V y w'):∃n e,y=.returned (.tuple #[.int .i64 n,aI e])∧(e=0→∀z∈[n],dH z)∧R [n] e w'∧Wt A V w':=by
 obtain ⟨L,e,rfl,hl,h1,h2,h3⟩:=h
 match L,hl with
 | [n],_=>exact ⟨n,e,rfl,h1,h2,h3⟩
theorem XN.two {A:Nat→Prop}{R:List Int→Int→World→Prop}{V w':World}{y:Ending}(h:XN 2 A R V y w'):∃n m e,y=.returned (.tuple #[.int .i64 n,.int .i64 m,aI e])∧(e=0→∀z∈[n,m],dH z)∧R [n,m] e w'∧Wt A V w':=by
 obtain ⟨L,e,rfl,hl,h1,h2,h3⟩:=h
 match L,hl with
 | [n,m],_=>exact ⟨n,m,e,rfl,h1,h2,h3⟩
theorem jE (V:World) (g:GL V) (p:Int) (word:az) (nv tv:Value) (on:Bool) (L:List Int) (hL:L.length≤1000) (c:Int) (hR:c=0→∀n∈L,dH n) (hw:word.length≤100000) :
 Calls Tryz.prog 85 #[dR p word nv tv on,aI c,.slice (some ⟨V.heap.size,0,none⟩) L.length L.length] (V.alloc (.cells (L.map (Value.int .i64)).toArray 3)) fun e w'=>TO (word ++ aQ L) c e∧Below V.heap.size V w':=by
 have b:Below V.heap.size V (V.alloc (.cells (L.map (Value.int .i64)).toArray 3)):=(Below.refl _ _).alloc (Nat.le_refl _) _
 refine (uT (V.alloc (.cells (L.map (Value.int .i64)).toArray 3)) (g.below b) p word nv tv on (some ⟨V.heap.size,0,none⟩) L L.length (.inr ⟨_,0,rfl,by simp,fun i hi=>?_⟩) hL c hR hw).mono fun e w' h=>⟨h.1,b.trans (h.2.mono b.size)⟩
 have hb:(V.alloc (.cells (L.map (Value.int .i64)).toArray 3)).heap[V.heap.size]? = some (.cells (L.map (Value.int .i64)).toArray 3):=by
  show (V.heap.push _)[V.heap.size]? = _;rw [Array.getElem?_push,if_pos rfl]
 rw [Nat.zero_add,Lib.cell_of_heap hb]
 simp [hi]
section
variable {w:World}{A:Nat→Prop}{cb kb:Nat}{nv tv:Value}{ns:List Int}{ts:List az}{p a b c:Int}{word s t:az}{on:Bool}{R:List Int→Int→World→Prop}
theorem Sd (g:Gv w A cb kb nv tv ns ts) (hw:word.length≤100000) (hX:∀V,Below w.heap.size w V→Calls Tryz.prog 98 #[wp kb,.int .i64 p] V (XN 1 A R V)) (hR:∀L c V V',R L c V→Below V.heap.size V V'→R L c V') :
 Calls Tryz.prog 51 #[wp cb,dR p word nv tv on] w fun e w'=>∃L c,TO (word ++ aQ L) c e∧R L c w':=by
 obtain ⟨x,wA,nb,no,nd,nc,tb,tf,td,tc,hx,rfl,rfl,dx,bA,hnc,htc,hnd,htd,hall⟩:=g.box p word on
 have HA:Aside _:=hall
 have HR:Aside _:=hR
 have k9:Wt A wA wA.drew:=Wt.eY wA
 have hX1:=hX wA.drew bA.drew
 clear hX hR hall g
 go_enter Tryz.func51,Tryz.ntmps51
 go_upto_region 1 with fail
 rw [←dx,←hx]
 clear dx hx
 go_region_held (fun w'=>w'.cell? ⟨cb,0,none⟩=some (wp kb)∧w'.cell? ⟨x,0,none⟩=some (.int .i64 p)∧w'.cell? ⟨x,1,none⟩=some (tx word)∧w'.cell? ⟨x,2,none⟩=some (.slice nd ns.length nc)∧w'.cell? ⟨x,3,none⟩=some (.slice td ts.length tc)∧w'.cell? ⟨x,4,none⟩=some (.bool on)) (exact (HA.out _ k9).Zw) (first
  |(go_at_call 98;refine hX1.mono ?_;rintro y w1 hy;obtain ⟨n,e,rfl,hi,r1,k1⟩:=hy.one;have k9:=k1.dz;have hT:=jE w1 (HA.out w1 k9).gl p word (.slice nd ns.length nc) (.slice td ts.length tc) on [n] (by simp) e hi hw))
 all_goals
  obtain ⟨c0,b0,b1,b2,b3,b4,_⟩:=HA.out w1 k9
  clear hi
  go_wp2_with (go_at_call 85;refine hT.mono ?_;rintro y w2 ⟨⟨hc,rfl⟩|⟨hc,rfl⟩,b9⟩;rotate_left;exact ⟨rfl,[n],e,.inr ⟨hc,rfl⟩,HR.out _ _ _ _ r1 b9⟩)
  go_ret
  exact ⟨[n],e,.inl ⟨hc,rfl⟩,HR.out _ _ _ _ r1 b9⟩
theorem abg (g:Gv w A cb kb nv tv ns ts) (hw:word.length≤100000) (hX:∀V,Below w.heap.size w V→Calls Tryz.prog 119 #[wp kb,.int .i64 p] V (XN 2 A R V)) (hR:∀L c V V',R L c V→Below V.heap.size V V'→R L c V') :
 Calls Tryz.prog 70 #[wp cb,dR p word nv tv on] w fun e w'=>∃L c,TO (word ++ aQ L) c e∧R L c w':=by
 obtain ⟨x,wA,nb,no,nd,nc,tb,tf,td,tc,hx,rfl,rfl,dx,bA,hnc,htc,hnd,htd,hall⟩:=g.box p word on
 have HA:Aside _:=hall
 have HR:Aside _:=hR
 have k9:Wt A wA wA.drew:=Wt.eY wA
 have hX1:=hX wA.drew bA.drew
 clear hX hR hall g
 go_enter Tryz.func70,Tryz.ntmps70
 go_upto_region 1 with fail
 rw [←dx,←hx]
 clear dx hx
 go_region_held (fun w'=>w'.cell? ⟨cb,0,none⟩=some (wp kb)∧w'.cell? ⟨x,0,none⟩=some (.int .i64 p)∧w'.cell? ⟨x,1,none⟩=some (tx word)∧w'.cell? ⟨x,2,none⟩=some (.slice nd ns.length nc)∧w'.cell? ⟨x,3,none⟩=some (.slice td ts.length tc)∧w'.cell? ⟨x,4,none⟩=some (.bool on)) (exact (HA.out _ k9).Zw) (first
  |(go_at_call 119;refine hX1.mono ?_;rintro y w1 hy;obtain ⟨n,m,e,rfl,hi,r1,k1⟩:=hy.two;have k9:=k1.dz;have hT:=jE w1 (HA.out w1 k9).gl p word (.slice nd ns.length nc) (.slice td ts.length tc) on [n,m] (by simp) e hi hw))
 all_goals
  obtain ⟨c0,b0,b1,b2,b3,b4,_⟩:=HA.out w1 k9
  clear hi
  go_wp2_with (go_at_call 85;refine hT.mono ?_;rintro y w2 ⟨⟨hc,rfl⟩|⟨hc,rfl⟩,b9⟩;rotate_left;exact ⟨rfl,[n,m],e,.inr ⟨hc,rfl⟩,HR.out _ _ _ _ r1 b9⟩)
  go_ret
  exact ⟨[n,m],e,.inl ⟨hc,rfl⟩,HR.out _ _ _ _ r1 b9⟩
theorem abo (g:Gv w A cb kb nv tv [a,b] ts) (hw:word.length≤100000) (hX:∀V,Below w.heap.size w V→Calls Tryz.prog 105 #[wp kb,.int .i64 p,.int .i64 a,.int .i64 b] V (XN 1 A R V)) (hR:∀L c V V',R L c V→Below V.heap.size V V'→R L c V') :
 Calls Tryz.prog 57 #[wp cb,dR p word nv tv on] w fun e w'=>∃L c,TO (word ++ aQ L) c e∧R L c w':=by
 obtain ⟨x,wA,nb,no,nd,nc,tb,tf,td,tc,hx,rfl,rfl,dx,bA,hnc,htc,hnd,htd,hall⟩:=g.box p word on
 obtain rfl:=hnd (by simp)
 rw [show [a,b].length=2 from rfl] at *
 have HA:Aside _:=hall
 have HR:Aside _:=hR
 have k9:Wt A wA wA.drew:=Wt.eY wA
 have hX1:=hX wA.drew bA.drew
 clear hX hR hall g
 go_enter Tryz.func57,Tryz.ntmps57
 go_upto_region 1 with fail
 rw [←dx,←hx]
 clear dx hx
 go_region_held (fun w'=>w'.cell? ⟨cb,0,none⟩=some (wp kb)∧w'.cell? ⟨x,0,none⟩=some (.int .i64 p)∧w'.cell? ⟨x,1,none⟩=some (tx word)∧w'.cell? ⟨x,2,none⟩=some (.slice (some ⟨nb,no,none⟩) 2 nc)∧w'.cell? ⟨x,3,none⟩=some (.slice td ts.length tc)∧w'.cell? ⟨x,4,none⟩=some (.bool on)∧w'.cell? ⟨nb,no,none⟩=some (.int .i64 a)∧w'.cell? ⟨nb,no+1,none⟩=some (.int .i64 b)) (exact (HA.out _ k9).n20) (first
  |(go_at_call 105;refine hX1.mono ?_;rintro y w1 hy;obtain ⟨n,e,rfl,hi,r1,k1⟩:=hy.one;have k9:=k1.dz;have hT:=jE w1 (HA.out w1 k9).gl p word (.slice (some ⟨nb,no,none⟩) 2 nc) (.slice td ts.length tc) on [n] (by simp) e hi hw))
 all_goals
  obtain ⟨c0,b0,b1,b2,b3,b4,_⟩:=HA.out w1 k9
  clear hi
  go_wp2_with (go_at_call 85;refine hT.mono ?_;rintro y w2 ⟨⟨hc,rfl⟩|⟨hc,rfl⟩,b9⟩;rotate_left;exact ⟨rfl,[n],e,.inr ⟨hc,rfl⟩,HR.out _ _ _ _ r1 b9⟩)
  go_ret
  exact ⟨[n],e,.inl ⟨hc,rfl⟩,HR.out _ _ _ _ r1 b9⟩
theorem abm (g:Gv w A cb kb nv tv [a] [s]) (hw:word.length≤100000) (hX:∀V,Below w.heap.size w V→Calls Tryz.prog 109 #[wp kb,.int .i64 p,tx s,.int .i64 a,.bool on] V (XN 1 A R V)) (hR:∀L c V V',R L c V→Below V.heap.size V V'→R L c V') :
 Calls Tryz.prog 61 #[wp cb,dR p word nv tv on] w fun e w'=>∃L c,TO (word ++ aQ L) c e∧R L c w':=by
 obtain ⟨x,wA,nb,no,nd,nc,tb,tf,td,tc,hx,rfl,rfl,dx,bA,hnc,htc,hnd,htd,hall⟩:=g.box p word on
 obtain rfl:=hnd (by simp)
 rw [show [a].length=1 from rfl] at *
 obtain rfl:=htd (by simp)
 rw [show [s].length=1 from rfl] at *
 have HA:Aside _:=hall
 have HR:Aside _:=hR
 have k9:Wt A wA wA.drew:=Wt.eY wA
 have hX1:=hX wA.drew bA.drew
 clear hX hR hall g
 go_enter Tryz.func61,Tryz.ntmps61
 go_upto_region 1 with fail
 rw [←dx,←hx]
 clear dx hx
 go_region_held (fun w'=>w'.cell? ⟨cb,0,none⟩=some (wp kb)∧w'.cell? ⟨x,0,none⟩=some (.int .i64 p)∧w'.cell? ⟨x,1,none⟩=some (tx word)∧w'.cell? ⟨x,2,none⟩=some (.slice (some ⟨nb,no,none⟩) 1 nc)∧w'.cell? ⟨x,3,none⟩=some (.slice (some ⟨tb,tf,none⟩) 1 tc)∧w'.cell? ⟨x,4,none⟩=some (.bool on)∧w'.cell? ⟨nb,no,none⟩=some (.int .i64 a)∧w'.cell? ⟨tb,tf,none⟩=some (tx s)) (exact (HA.out _ k9).n11) (first
  |(go_at_call 109;refine hX1.mono ?_;rintro y w1 hy;obtain ⟨n,e,rfl,hi,r1,k1⟩:=hy.one;have k9:=k1.dz;have hT:=jE w1 (HA.out w1 k9).gl p word (.slice (some ⟨nb,no,none⟩) 1 nc) (.slice (some ⟨tb,tf,none⟩) 1 tc) on [n] (by simp) e hi hw))
 all_goals
  obtain ⟨c0,b0,b1,b2,b3,b4,_⟩:=HA.out w1 k9
  clear hi
  go_wp2_with (go_at_call 85;refine hT.mono ?_;rintro y w2 ⟨⟨hc,rfl⟩|⟨hc,rfl⟩,b9⟩;rotate_left;exact ⟨rfl,[n],e,.inr ⟨hc,rfl⟩,HR.out _ _ _ _ r1 b9⟩)
  go_ret
  exact ⟨[n],e,.inl ⟨hc,rfl⟩,HR.out _ _ _ _ r1 b9⟩
theorem abk (g:Gv w A cb kb nv tv ns ts) (hw:word.length≤100000) (hX:∀V,Below w.heap.size w V→Calls Tryz.prog 110 #[wp kb,.int .i64 p] V (XN 2 A R V)) (hR:∀L c V V',R L c V→Below V.heap.size V V'→R L c V') :
 Calls Tryz.prog 62 #[wp cb,dR p word nv tv on] w fun e w'=>∃L c,TO (word ++ aQ L) c e∧R L c w':=by
 obtain ⟨x,wA,nb,no,nd,nc,tb,tf,td,tc,hx,rfl,rfl,dx,bA,hnc,htc,hnd,htd,hall⟩:=g.box p word on
 have HA:Aside _:=hall
 have HR:Aside _:=hR
 have k9:Wt A wA wA.drew:=Wt.eY wA
 have hX1:=hX wA.drew bA.drew
 clear hX hR hall g
 go_enter Tryz.func62,Tryz.ntmps62
 go_upto_region 1 with fail
 rw [←dx,←hx]
 clear dx hx
 go_region_held (fun w'=>w'.cell? ⟨cb,0,none⟩=some (wp kb)∧w'.cell? ⟨x,0,none⟩=some (.int .i64 p)∧w'.cell? ⟨x,1,none⟩=some (tx word)∧w'.cell? ⟨x,2,none⟩=some (.slice nd ns.length nc)∧w'.cell? ⟨x,3,none⟩=some (.slice td ts.length tc)∧w'.cell? ⟨x,4,none⟩=some (.bool on)) (exact (HA.out _ k9).Zw) (first
  |(go_at_call 110;refine hX1.mono ?_;rintro y w1 hy;obtain ⟨n,m,e,rfl,hi,r1,k1⟩:=hy.two;have k9:=k1.dz;have hT:=jE w1 (HA.out w1 k9).gl p word (.slice nd ns.length nc) (.slice td ts.length tc) on [n,m] (by simp) e hi hw))
 all_goals
  obtain ⟨c0,b0,b1,b2,b3,b4,_⟩:=HA.out w1 k9
  clear hi
  go_wp2_with (go_at_call 85;refine hT.mono ?_;rintro y w2 ⟨⟨hc,rfl⟩|⟨hc,rfl⟩,b9⟩;rotate_left;exact ⟨rfl,[n,m],e,.inr ⟨hc,rfl⟩,HR.out _ _ _ _ r1 b9⟩)
  go_ret
  exact ⟨[n,m],e,.inl ⟨hc,rfl⟩,HR.out _ _ _ _ r1 b9⟩
theorem adF (g:Gv w A cb kb nv tv [a] ts) (hw:word.length≤100000) (hX:∀V,Below w.heap.size w V→Calls Tryz.prog 94 #[wp kb,.int .i64 p,.int .i64 a] V (XN 1 A R V)) (hR:∀L c V V',R L c V→Below V.heap.size V V'→R L c V') :
 Calls Tryz.prog 47 #[wp cb,dR p word nv tv on] w fun e w'=>∃L c,TO (word ++ aQ L) c e∧R L c w':=by
 obtain ⟨x,wA,nb,no,nd,nc,tb,tf,td,tc,hx,rfl,rfl,dx,bA,hnc,htc,hnd,htd,hall⟩:=g.box p word on
 obtain rfl:=hnd (by simp)
 rw [show [a].length=1 from rfl] at *
 have HA:Aside _:=hall
 have HR:Aside _:=hR
 have k9:Wt A wA wA.drew:=Wt.eY wA
 have hX1:=hX wA.drew bA.drew
 clear hX hR hall g
 go_enter Tryz.func47,Tryz.ntmps47
 go_upto_region 1 with fail
 rw [←dx,←hx]
 clear dx hx
 go_region_held (fun w'=>w'.cell? ⟨cb,0,none⟩=some (wp kb)∧w'.cell? ⟨x,0,none⟩=some (.int .i64 p)∧w'.cell? ⟨x,1,none⟩=some (tx word)∧w'.cell? ⟨x,2,none⟩=some (.slice (some ⟨nb,no,none⟩) 1 nc)∧w'.cell? ⟨x,3,none⟩=some (.slice td ts.length tc)∧w'.cell? ⟨x,4,none⟩=some (.bool on)∧w'.cell? ⟨nb,no,none⟩=some (.int .i64 a)) (exact (HA.out _ k9).n10) (first
  |(go_at_call 94;refine hX1.mono ?_;rintro y w1 hy;obtain ⟨n,e,rfl,hi,r1,k1⟩:=hy.one;have k9:=k1.dz;have hT:=jE w1 (HA.out w1 k9).gl p word (.slice (some ⟨nb,no,none⟩) 1 nc) (.slice td ts.length tc) on [n] (by simp) e hi hw))
 all_goals
  obtain ⟨c0,b0,b1,b2,b3,b4,_⟩:=HA.out w1 k9
  clear hi
  go_wp2_with (go_at_call 85;refine hT.mono ?_;rintro y w2 ⟨⟨hc,rfl⟩|⟨hc,rfl⟩,b9⟩;rotate_left;exact ⟨rfl,[n],e,.inr ⟨hc,rfl⟩,HR.out _ _ _ _ r1 b9⟩)
  go_ret
  exact ⟨[n],e,.inl ⟨hc,rfl⟩,HR.out _ _ _ _ r1 b9⟩
theorem Yg (g:Gv w A cb kb nv tv [a] [s]) (hw:word.length≤100000) (hX:∀V,Below w.heap.size w V→Calls Tryz.prog 120 #[wp kb,.int .i64 p,.int .i64 a,tx s] V (XN 1 A R V)) (hR:∀L c V V',R L c V→Below V.heap.size V V'→R L c V') :
 Calls Tryz.prog 71 #[wp cb,dR p word nv tv on] w fun e w'=>∃L c,TO (word ++ aQ L) c e∧R L c w':=by
 obtain ⟨x,wA,nb,no,nd,nc,tb,tf,td,tc,hx,rfl,rfl,dx,bA,hnc,htc,hnd,htd,hall⟩:=g.box p word on
 obtain rfl:=hnd (by simp)
 rw [show [a].length=1 from rfl] at *
 obtain rfl:=htd (by simp)
 rw [show [s].length=1 from rfl] at *
 have HA:Aside _:=hall
 have HR:Aside _:=hR
 have k9:Wt A wA wA.drew:=Wt.eY wA
 have hX1:=hX wA.drew bA.drew
 clear hX hR hall g
 go_enter Tryz.func71,Tryz.ntmps71
 go_upto_region 1 with fail
 rw [←dx,←hx]
 clear dx hx
 go_region_held (fun w'=>w'.cell? ⟨cb,0,none⟩=some (wp kb)∧w'.cell? ⟨x,0,none⟩=some (.int .i64 p)∧w'.cell? ⟨x,1,none⟩=some (tx word)∧w'.cell? ⟨x,2,none⟩=some (.slice (some ⟨nb,no,none⟩) 1 nc)∧w'.cell? ⟨x,3,none⟩=some (.slice (some ⟨tb,tf,none⟩) 1 tc)∧w'.cell? ⟨x,4,none⟩=some (.bool on)∧w'.cell? ⟨nb,no,none⟩=some (.int .i64 a)∧w'.cell? ⟨tb,tf,none⟩=some (tx s)) (exact (HA.out _ k9).n11) (first
  |(go_at_call 120;refine hX1.mono ?_;rintro y w1 hy;obtain ⟨n,e,rfl,hi,r1,k1⟩:=hy.one;have k9:=k1.dz;have hT:=jE w1 (HA.out w1 k9).gl p word (.slice (some ⟨nb,no,none⟩) 1 nc) (.slice (some ⟨tb,tf,none⟩) 1 tc) on [n] (by simp) e hi hw))
 all_goals
  obtain ⟨c0,b0,b1,b2,b3,b4,_⟩:=HA.out w1 k9
  clear hi
  go_wp2_with (go_at_call 85;refine hT.mono ?_;rintro y w2 ⟨⟨hc,rfl⟩|⟨hc,rfl⟩,b9⟩;rotate_left;exact ⟨rfl,[n],e,.inr ⟨hc,rfl⟩,HR.out _ _ _ _ r1 b9⟩)
  go_ret
  exact ⟨[n],e,.inl ⟨hc,rfl⟩,HR.out _ _ _ _ r1 b9⟩
end
def XS (A:Nat→Prop) (R:List Int→Int→World→Prop) (V:World) (y:Ending) (w':World):Prop:=∃ad L cap e,y=.returned (.tuple #[.slice ad L.length cap,aI e])∧L.length≤1000∧(∀n∈L,dH n)∧pV w' ad L∧R L e w'∧Wt A V w'
def StE (word:az) (L:List Int) (c:Int) (e:Ending) (w':World):Prop:=
 (c=0∧e=.returned (tx (word ++ aQ L)))∨(c≠0∧L=[]∧e=thrown (eQ c))∨(c≠0∧L≠[]∧L.length≤1000∧(∀n∈L,dH n)∧∃ad cap,e=thrown (FN ad L.length cap c)∧pV w' ad L)
def XR (A:Nat→Prop) (R:az→Int→World→Prop) (V:World) (y:Ending) (w':World):Prop:=∃z e,y=.returned (.tuple #[tx z,aI e])∧z.length≤100000∧R z e w'∧Wt A V w'
theorem XN.three {A:Nat→Prop}{R:List Int→Int→World→Prop}{V w':World}{y:Ending}(h:XN 3 A R V y w'):∃n m k e,y=.returned (.tuple #[.int .i64 n,.int .i64 m,.int .i64 k,aI e])∧(e=0→∀z∈[n,m,k],dH z)∧R [n,m,k] e w'∧Wt A V w':=by
 obtain ⟨L,e,rfl,hl,h1,h2,h3⟩:=h
 match L,hl with
 | [n,m,k],_=>exact ⟨n,m,k,e,rfl,h1,h2,h3⟩
theorem Cj (z:az):(qx z).length≤3*z.length+2:=by
 have:=wD z
 unfold qx
 simp only [List.length_append,List.length_cons,List.length_nil]
 omega
section
variable {w:World}{A:Nat→Prop}{cb kb:Nat}{nv tv:Value}{ns:List Int}{ts:List az}{p a b c:Int}{word s t:az}{on:Bool}
theorem Yi {R:List Int→Int→World→Prop}(g:Gv w A cb kb nv tv [a,b,c] ts) (hw:word.length≤100000) (hX:∀V,Below w.heap.size w V→Calls Tryz.prog 116 #[wp kb,.int .i64 p,.int .i64 a,.int .i64 b,.int .i64 c] V (XS A R V)) (hR:∀L c V V',R L c V→Below V.heap.size V V'→R L c V') :
 Calls Tryz.prog 67 #[wp cb,dR p word nv tv on] w fun e w'=>∃L c,StE word L c e w'∧R L c w':=by
 obtain ⟨x,wA,nb,no,nd,nc,tb,tf,td,tc,hx,rfl,rfl,dx,bA,hnc,htc,hnd,htd,hall⟩:=g.box p word on
 obtain rfl:=hnd (by simp)
 rw [show [a,b,c].length=3 from rfl] at *
 have HA:Aside _:=hall
 have HR:Aside _:=hR
 have k9:Wt A wA wA.drew:=Wt.eY wA
 have hX1:=hX wA.drew bA.drew
 clear hX hR hall g
 go_enter Tryz.func67,Tryz.ntmps67
 go_upto_region 1 with fail
 rw [←dx,←hx]
 clear dx hx
 go_region_held (fun w'=>w'.cell? ⟨cb,0,none⟩=some (wp kb)∧w'.cell? ⟨x,0,none⟩=some (.int .i64 p)∧w'.cell? ⟨x,1,none⟩=some (tx word)∧w'.cell? ⟨x,2,none⟩=some (.slice (some ⟨nb,no,none⟩) 3 nc)∧w'.cell? ⟨x,3,none⟩=some (.slice td ts.length tc)∧w'.cell? ⟨x,4,none⟩=some (.bool on)∧w'.cell? ⟨nb,no,none⟩=some (.int .i64 a)∧w'.cell? ⟨nb,no+1,none⟩=some (.int .i64 b)∧w'.cell? ⟨nb,no+2,none⟩=some (.int .i64 c)) (exact (HA.out _ k9).n30) (first
  |(go_at_call 116;refine hX1.mono ?_;rintro y w1 ⟨ad,L,cap,e,rfl,hl,hi,hin,r1,k1⟩;have k9:=k1.dz;have hT:=uT w1 (HA.out w1 k9).gl p word (.slice (some ⟨nb,no,none⟩) 3 nc) (.slice td ts.length tc) on ad L cap hin hl e (fun _=>hi) hw))
 all_goals
  obtain ⟨c0,b0,b1,b2,b3,b4,_⟩:=(HA.out w1 k9).n30
  have HI:Aside (∀n∈L,dH n):=hi
  clear hi
  by_cases he:e=0
  ·subst he
   rw [aB] at hT ⊢
   go_wp2_with (go_at_call 85;refine hT.mono ?_;rintro y w2 ⟨⟨hc,rfl⟩|⟨hc,rfl⟩,b9⟩;rotate_left;exact absurd rfl hc)
   go_ret
   exact ⟨L,0,.inl ⟨rfl,rfl⟩,HR.out _ _ _ _ r1 b9⟩
  ·rw [ax he] at hT ⊢
   by_cases hL:L=[]
   ·subst hL
    go_wp2_with (go_at_call 85;refine hT.mono ?_;rintro y w2 ⟨⟨hc,rfl⟩|⟨hc,rfl⟩,b9⟩;exact absurd hc he)
    exact ⟨rfl,[],e,.inr (.inl ⟨he,rfl,rfl⟩),HR.out _ _ _ _ r1 b9⟩
   ·have hlp:(0:Int)<(L.length:Int):=by
     have:=List.length_pos_iff.2 hL
     omega
    clear hT
    go_wp2_with fail
    exact ⟨rfl,L,e,.inr (.inr ⟨he,hL,hl,HI.out,ad,cap,rfl,hin⟩),r1⟩
theorem abj {R:az→Int→World→Prop}(g:Gv w A cb kb nv tv [a,b] ts) (hw:word.length≤100000) (hX:∀V,Below w.heap.size w V→Calls Tryz.prog 112 #[wp kb,.int .i64 p,.int .i64 a,.int .i64 b] V (XR A R V)) (hR:∀L c V V',R L c V→Below V.heap.size V V'→R L c V') :
 Calls Tryz.prog 64 #[wp cb,dR p word nv tv on] w fun e w'=>∃z c,TO (word ++ [32] ++ qx z) c e∧R z c w':=by
 obtain ⟨x,wA,nb,no,nd,nc,tb,tf,td,tc,hx,rfl,rfl,dx,bA,hnc,htc,hnd,htd,hall⟩:=g.box p word on
 obtain rfl:=hnd (by simp)
 rw [show [a,b].length=2 from rfl] at *
 have HA:Aside _:=hall
 have HR:Aside _:=hR
 have k9:Wt A wA wA.drew:=Wt.eY wA
 have hX1:=hX wA.drew bA.drew
 clear hX hR hall g
 go_enter Tryz.func64,Tryz.ntmps64
 go_upto_region 1 with fail
 rw [←dx,←hx]
 clear dx hx
 go_region_held (fun w'=>w'.cell? ⟨cb,0,none⟩=some (wp kb)∧w'.cell? ⟨x,0,none⟩=some (.int .i64 p)∧w'.cell? ⟨x,1,none⟩=some (tx word)∧w'.cell? ⟨x,2,none⟩=some (.slice (some ⟨nb,no,none⟩) 2 nc)∧w'.cell? ⟨x,3,none⟩=some (.slice td ts.length tc)∧w'.cell? ⟨x,4,none⟩=some (.bool on)∧w'.cell? ⟨nb,no,none⟩=some (.int .i64 a)∧w'.cell? ⟨nb,no+1,none⟩=some (.int .i64 b)) (exact (HA.out _ k9).n20) (first
  |(go_at_call 112;refine hX1.mono ?_;rintro y w1 ⟨z,e,rfl,hz,r1,k1⟩;have k9:=k1.dz;have hT:=told_none w1 (HA.out w1 k9).gl p word (.slice (some ⟨nb,no,none⟩) 2 nc) (.slice td ts.length tc) on e hw))
 all_goals
  obtain ⟨c0,b0,b1,b2,b3,b4,_⟩:=(HA.out w1 k9).n20
  have hS:=fun V=>Tc V z hz
  have HZ:Aside _:=Cj z
  have acR:=nW word [32]
  have acQ:=nW (word ++ [32]) (qx z)
  have l1:¬9223372036854775807<word.length+1:=by omega
  have l2:¬9223372036854775807<(word ++ [32]).length+(qx z).length:=by have:=HZ.out;rw [List.length_append];simp only [List.length_cons,List.length_nil];omega
  generalize hX9:word ++ [32]=X9 at *
  clear hz
  go_wp2_with (first
   |(go_at_call 85;refine hT.mono ?_;rintro y w2 ⟨⟨hc,rfl⟩|⟨hc,rfl⟩,b9⟩;rotate_left;exact ⟨rfl,z,e,.inr ⟨hc,rfl⟩,HR.out _ _ _ _ r1 b9⟩)
   |(go_at_call 113;refine (hS _).mono ?_;rintro y w3 ⟨rfl,b8⟩))
  go_ret
  exact ⟨z,e,.inl ⟨hc,by rw [hX9];rfl⟩,HR.out _ _ _ _ r1 (b9.trans (b8.mono b9.size))⟩
theorem Zn {R:List Int→Int→World→Prop}(g:Gv w A cb kb nv tv [a] ts) (hw:word.length≤100000) (hX:∀V,Below w.heap.size w V→Calls Tryz.prog 89 #[wp kb,.int .i64 a] V (XN 3 A R V)) (hR:∀L c V V',R L c V→Below V.heap.size V V'→R L c V') :
 Calls Tryz.prog 41 #[wp cb,dR p word nv tv on] w fun e w'=>∃L c,TO (word ++ aQ L) c e∧R L c w':=by
 obtain ⟨x,wA,nb,no,nd,nc,tb,tf,td,tc,hx,rfl,rfl,dx,bA,hnc,htc,hnd,htd,hall⟩:=g.box p word on
 obtain rfl:=hnd (by simp)
 rw [show [a].length=1 from rfl] at *
 have HA:Aside _:=hall
 have HR:Aside _:=hR
 have k9:Wt A wA wA.drew:=Wt.eY wA
 have hX1:=hX wA.drew bA.drew
 clear hX hR hall g
 go_enter Tryz.func41,Tryz.ntmps41
 go_upto_region 1 with fail
 rw [←dx,←hx]
 clear dx hx
 go_region_held (fun w'=>w'.cell? ⟨cb,0,none⟩=some (wp kb)∧w'.cell? ⟨x,0,none⟩=some (.int .i64 p)∧w'.cell? ⟨x,1,none⟩=some (tx word)∧w'.cell? ⟨x,2,none⟩=some (.slice (some ⟨nb,no,none⟩) 1 nc)∧w'.cell? ⟨x,3,none⟩=some (.slice td ts.length tc)∧w'.cell? ⟨x,4,none⟩=some (.bool on)∧w'.cell? ⟨nb,no,none⟩=some (.int .i64 a)) (exact (HA.out _ k9).n10) (first
  |(go_at_call 89;refine hX1.mono ?_;rintro y w1 hy;obtain ⟨n,m,k,e,rfl,hi,r1,k1⟩:=hy.three;have k9:=k1.dz;have hT:=jE w1 (HA.out w1 k9).gl p word (.slice (some ⟨nb,no,none⟩) 1 nc) (.slice td ts.length tc) on [n,m,k] (by simp) e hi hw))
 all_goals
  obtain ⟨c0,b0,b1,b2,b3,b4,_⟩:=(HA.out w1 k9).n10
  clear hi
  go_wp2_with (go_at_call 85;refine hT.mono ?_;rintro y w2 ⟨⟨hc,rfl⟩|⟨hc,rfl⟩,b9⟩;rotate_left;exact ⟨rfl,[n,m,k],e,.inr ⟨hc,rfl⟩,HR.out _ _ _ _ r1 b9⟩)
  go_ret
  exact ⟨[n,m,k],e,.inl ⟨hc,rfl⟩,HR.out _ _ _ _ r1 b9⟩
end
end Go.Proofs.YtippochapiolpaaGreatDoor
namespace Go.Proofs.YtippochapiolpaaGreatDoor
open Go.RowKit Go.Shelf
theorem abb:Builder.Extra Tryz.prog Tryz.joinL_ren where
 sizeBuilder:=by kernel_rfl
 liesBuilder:=by kernel_rfl
 t5:=Tryz.underlying5
 a5:=Tryz.isAgg5
 z5:=Tryz.sizeOf5
 v5:=Tryz.zeroValue5
 infoByte:=by kernel_rfl
 cellsByte:=by kernel_rfl
 sizeByte:=by kernel_rfl
 neB5:=by decide
def uA (l:List az):az:=Lib.join l [32]
theorem Qs {V:World}{n0:Nat}{v:Value}{N:List az}(h:V.ownsRow n0 9 1 v N.length (N.map fun x=>tx x)) (hN:N.length≤1000) (t:az) :
 ∃g cap w',(∀ty,(Builtin.append_ #[75,75] ty #[.slice (some ⟨V.heap.size,0,none⟩) 1 1,v]).run Tryz.prog (V.alloc (.cells #[tx t] 9))=.ok (.slice (some ⟨g,0,none⟩) (t :: N).length cap) w')∧(t :: N).length≤cap∧g<w'.heap.size∧(∀i (hi:i<(t :: N).length),w'.cell? ⟨g,0+i,none⟩=some (tx (t :: N)[i]))∧Below V.heap.size V w':=by
 obtain ⟨i0,hi,hz0,hz1,hz2⟩:=info_parts (P:=Tryz.prog) (e:=9) (z:=.string ⟨#[]⟩) (size:=1) (bytes:=16) (by kernel_rfl)
 have hb:(V.alloc (.cells #[tx t] 9)).heap[V.heap.size]? = some (.cells #[tx t] 9):=by
  show (V.heap.push _)[V.heap.size]? = _;rw [Array.getElem?_push,if_pos rfl]
 have own:(V.alloc (.cells #[tx t] 9)).ownsRow V.heap.size 9 1 (.slice (some ⟨V.heap.size,0,none⟩) 1 1) 1 [tx t]:=
  ⟨rfl,.inr ⟨V.heap.size,1,#[tx t],rfl,Nat.le_refl _,hb,Nat.le_refl _,by unfold maxLen;omega,rfl,rfl⟩⟩
 have b1:Below V.heap.size V (V.alloc (.cells #[tx t] 9)):=(Below.refl _ _).alloc (Nat.le_refl _) _
 have fin:∀(v':Value) (w':World),w'.ownsRow V.heap.size 9 1 v' (1+N.length) ([tx t] ++ N.map fun x=>tx x)→Below V.heap.size V w'→∃g cap,v'=.slice (some ⟨g,0,none⟩) (t :: N).length cap∧(t :: N).length≤cap∧g<w'.heap.size∧∀i (hi:i<(t :: N).length),w'.cell? ⟨g,0+i,none⟩=some (tx (t :: N)[i]):=fun v' w' own' _=>by
  have qa:=own'
  rcases own'.2 with ⟨_,h9⟩|⟨g,cap,cur,rfl,_,hg,hc,_⟩
  ·omega
  ·refine ⟨g,cap,by rw [List.length_cons,Nat.add_comm],by rw [List.length_cons];omega,(Array.getElem?_eq_some_iff.1 hg).1,fun i hi=>?_⟩
   have:=qa.cells (g:=g) rfl i (tx (t :: N)[i]) (by cases i<;>simp at hi ⊢)
   rw [Nat.zero_add,←this]
   simp [Addr.add_lit]
 rcases h.2 with ⟨rfl,h0⟩|⟨g,cap,cur,rfl,hN0,hg,hnc,hcm,hcs,htk⟩
 ·have hr:=fun ty=>run_append_nothing (P:=Tryz.prog) (V.alloc (.cells #[tx t] 9)) 75 75 ty 9 i0 Tryz.underlying75 hi (some ⟨V.heap.size,0,none⟩) 1 1 (Nat.le_refl _) _ (Src.ofNil _ Tryz.underlying75 0)
  have e0:N=[]:=List.eq_nil_of_length_eq_zero h0
  subst e0
  obtain ⟨g,cap,e,r⟩:=fin _ _ own b1
  exact ⟨g,cap,_,fun ty=>(hr ty).trans (by rw [e]),r.1,r.2.1,r.2.2,b1⟩
 ·obtain ⟨v',w',hrun,own',hgr,_⟩:=run_append_own_at (P:=Tryz.prog) (V.alloc (.cells #[tx t] 9)) V.heap.size 75 75 9 i0 (.string ⟨#[]⟩) 1 16 Tryz.underlying75 hi hz0 hz1 hz2 rfl (by decide) _ 1 [tx t] own ⟨g,0,none⟩ N.length cap (N.map fun x=>tx x) (by simp) (fun j u hj=>(h.alloc _).cells (g:=g) rfl j u hj) (by intro x hx;obtain ⟨y,_,rfl⟩:=List.mem_map.1 hx;rfl) (by unfold maxLen;omega) (by omega) (by simp)
  have b2:Below V.heap.size V w':=b1.grown hgr (by simp) (fun k hk=>by simp only [Value.ownBlock,Option.some.injEq] at hk;omega)
  obtain ⟨g2,cap2,e,r⟩:=fin _ _ own' b2
  exact ⟨g2,cap2,w',fun _=>by rw [←e];exact hrun,r.1,r.2.1,r.2.2,b2⟩
theorem XF (L:List az) (V:World) (g cap:Nat) (hg:g<V.heap.size) (hc:L.length≤cap) (hN:L.length≤2000) (hcl:∀i (hi:i<L.length),V.cell? ⟨g,0+i,none⟩=some (tx L[i])) (hl:(uA L).length≤100000000) :
 Calls Tryz.prog 104 #[.slice (some ⟨g,0,none⟩) L.length cap,tx [32]] V fun e w'=>e=.returned (tx (uA L))∧Below V.heap.size V w':=by
 have e1:(L.map fun x=>(⟨x.toArray⟩:ByteArray)).map (·.data.toList)=L:=by simp [List.map_map,Function.comp_def]
 have:=Any.strings_Join Tryz.joinL abb g 0 cap (L.map fun x=>(⟨x.toArray⟩:ByteArray)) ⟨#[32]⟩ V (fun j x hx=>by
  rw [List.getElem?_map] at hx
  obtain ⟨y,hy,rfl⟩:=Option.map_eq_some_iff.1 hx
  obtain ⟨hj,rfl⟩:=List.getElem?_eq_some_iff.1 hy
  exact hcl j hj) hg (by rw [List.length_map];omega) (by rw [List.length_map];exact hc) (by rw [e1];exact Nat.le_trans hl (by omega))
 rw [e1,List.length_map] at this
 exact this
def XL (A:Nat→Prop) (R:List az→Int→World→Prop) (V:World) (y:Ending) (w':World):Prop:=∃v N e n0,y=.returned (.tuple #[v,aI e])∧(e=0→w'.ownsRow n0 9 1 v N.length (N.map fun x=>tx x)∧N.length≤1000∧∀x∈N,x.length≤1000)∧R N e w'∧Wt A V w'
theorem Pt (t:az) (N:List az) (h:∀x∈N,x.length≤1000):(uA (t :: N)).length≤t.length+1001*N.length:=by
 unfold uA
 rw [Lib.join_cons,List.length_append]
 have:(Lib.joinTail [32] N).length≤1001*N.length:=by
  unfold Lib.joinTail
  induction N with
  |nil=>simp
  |cons x N ih=>
   have h1:=h x List.mem_cons_self
   have h2:=ih fun y hy=>h y (List.mem_cons_of_mem _ hy)
   simp only [List.map_cons,List.flatten_cons,List.length_append,List.length_cons,List.length_nil] at h2 ⊢
   omega
 omega
section
variable {w:World}{A:Nat→Prop}{cb kb:Nat}{nv tv:Value}{ns:List Int}{ts:List az}{p a b c:Int}{word s t:az}{on:Bool}
theorem abp {R:List az→Int→World→Prop}(g:Gv w A cb kb nv tv ns [s]) (hw:word.length≤100000) (hX:∀V,Below w.heap.size w V→Calls Tryz.prog 103 #[wp kb,.int .i64 p,tx s] V (XL A R V)) (hR:∀L c V V',R L c V→Below V.heap.size V V'→R L c V') :
 Calls Tryz.prog 56 #[wp cb,dR p word nv tv on] w fun e w'=>∃N c,TO (uA (word :: N)) c e∧R N c w':=by
 obtain ⟨x,wA,nb,no,nd,nc,tb,tf,td,tc,hx,rfl,rfl,dx,bA,hnc,htc,hnd,htd,hall⟩:=g.box p word on
 obtain rfl:=htd (by simp)
 rw [show [s].length=1 from rfl] at *
 have HA:Aside _:=hall
 have HR:Aside _:=hR
 have k9:Wt A wA wA.drew:=Wt.eY wA
 have hX1:=hX wA.drew bA.drew
 clear hX hR hall g
 go_enter Tryz.func56,Tryz.ntmps56
 go_upto_region 1 with fail
 rw [←dx,←hx]
 clear dx hx
 go_region_held (fun w'=>w'.cell? ⟨cb,0,none⟩=some (wp kb)∧w'.cell? ⟨x,0,none⟩=some (.int .i64 p)∧w'.cell? ⟨x,1,none⟩=some (tx word)∧w'.cell? ⟨x,2,none⟩=some (.slice nd ns.length nc)∧w'.cell? ⟨x,3,none⟩=some (.slice (some ⟨tb,tf,none⟩) 1 tc)∧w'.cell? ⟨x,4,none⟩=some (.bool on)∧w'.cell? ⟨tb,tf,none⟩=some (tx s)) (exact (HA.out _ k9).n01) (first
  |(go_at_call 103;refine hX1.mono ?_;rintro y w1 ⟨v,N,e,n0,rfl,hv,r1,k1⟩;have k9:=k1.dz;have hT:=told_none w1 (HA.out w1 k9).gl p word (.slice nd ns.length nc) (.slice (some ⟨tb,tf,none⟩) 1 tc) on e hw))
 all_goals
  obtain ⟨c0,b0,b1,b2,b3,b4,_⟩:=(HA.out w1 k9).n01
  by_cases he:e=0
  ·subst he
   obtain ⟨hrow,hN,hNl⟩:=hv rfl
   have HJ:Aside (∀V,Below w1.heap.size w1 V→∃g cap w',(∀ty,(Builtin.append_ #[75,75] ty #[.slice (some ⟨V.heap.size,0,none⟩) 1 1,v]).run Tryz.prog (V.alloc (.cells #[tx word] 9))=.ok (.slice (some ⟨g,0,none⟩) (N.length+1) cap) w')∧Below V.heap.size V w'∧Calls Tryz.prog 104 #[.slice (some ⟨g,0,none⟩) (N.length+1) cap,tx [32]] w' fun e w'=>e=.returned (tx (uA (word :: N)))∧Below V.heap.size V w'):=fun V b=>by
    obtain ⟨g,cap,w',h1,h2,h3,h4,h5⟩:=Qs (rC hrow b) hN word
    exact ⟨g,cap,w',h1,h5,(XF (word :: N) w' g cap h3 h2 (by simp;omega) h4 (by have:=Pt word N hNl;omega)).mono fun e w2 h=>⟨h.1,h5.trans (h.2.mono h5.size)⟩⟩
   clear hrow hN hNl hv
   rw [aB] at hT ⊢
   obtain ⟨n9,I7⟩:∃n9,N.length+1=n9:=⟨_,rfl⟩
   rw [I7] at HJ
   clear I7
   go_wp2_with (first
    |(go_at_call 85;refine hT.mono ?_;rintro y w2 ⟨⟨hc,rfl⟩|⟨hc,rfl⟩,b9⟩;rotate_left;exact absurd rfl hc;obtain ⟨g9,Np,w3,hr,b8,hJ⟩:=HJ.out w2 b9)
    |(at_builtin;refine ib rfl _ _ 75 75 rfl _ _ _ w3 rfl rfl hr ?_)
    |(go_at_call 104;refine hJ.mono ?_;rintro y w4 ⟨rfl,b7⟩))
   go_ret
   exact ⟨N,0,.inl ⟨rfl,rfl⟩,HR.out _ _ _ _ r1 (b9.trans (b7.mono b9.size))⟩
  ·rw [ax he] at hT ⊢
   go_wp2_with (go_at_call 85;refine hT.mono ?_;rintro y w2 ⟨⟨hc,rfl⟩|⟨hc,rfl⟩,b9⟩;exact absurd hc he)
   exact ⟨rfl,N,e,.inr ⟨he,rfl⟩,HR.out _ _ _ _ r1 b9⟩
def Rp:az:=[102,114,101,101,32,104,97,115,32,104,101,108,112,32,110,101,119,32,112,105,100,115,32,47,32,97,100,106,117,115,116,32,99,108,111,115,101,32,100,117,112,32,100,117,112,50,32,101,120,101,99,32,101,120,105,116,32,102,111,114,107,32,105,103,110,111,114,101,32,107,105,108,108,32,108,105,109,105,116,32,108,105,110,107,32,108,105,115,116,32,108,111,97,100,32,109,97,112,32,109,97,114,107,32,109,107,100,105,114,32,111,112,101,110,32,112,105,112,101,32,112,114,111,116,101,99,116,32,114,101,97,100,32,114,101,110,97,109,101,32,115,101,101,107,32,115,116,111,114,101,32,117,110,108,105,110,107,32,117,110,109,97,112,32,119,97,105,116,32,119,114,105,116,101]
theorem abt:Calls Tryz.prog 42 #[wp cb,dR p word nv tv on] w fun e w'=>e=.returned (tx Rp)∧Below w.heap.size w w':=by
 go_enter Tryz.func42,Tryz.ntmps42
 go_wp2_with fail
 go_ret
 exact ⟨rfl,(Below.refl _ _).alloc (Nat.le_refl _) _⟩
end
end Go.Proofs.YtippochapiolpaaGreatDoor
namespace Go.Proofs.YtippochapiolpaaGreatDoor
open Go.RowKit
def mY (L:List Int) (st:Int→Int):List Int:=L.flatMap fun n=>[n,st n]
theorem Kg {L:List Int}{i:Nat}(st:Int→Int) (h:i<L.length):mY (L.take (i+1)) st=mY (L.take i) st ++ [L[i],st L[i]]:=by
 unfold mY
 rw [List.take_succ_eq_append_getElem h,List.flatMap_append]
 simp
theorem wG (L:List Int) (st:Int→Int):(mY L st).length=2*L.length:=by
 unfold mY
 induction L with
 |nil=>rfl
 |cons n L ih=>simp only [List.flatMap_cons,List.length_append,List.length_cons,List.length_nil,ih];omega
theorem Ve {V:World}{n0:Nat}{v:Value}{l:List Int}(hown:V.ownsRow n0 3 1 v l.length (l.map (Value.int .i64))) (hn:n0≤V.heap.size) (cs:List Int) (hl:l.length+cs.length≤1000000) :
 ∃v' w',(∀ty,(Builtin.append_ #[46,46] ty #[v,.slice (some ⟨V.heap.size,0,none⟩) cs.length cs.length]).run Tryz.prog (V.alloc (.cells (cs.map (Value.int .i64)).toArray 3))=.ok v' w')∧w'.ownsRow n0 3 1 v' (l ++ cs).length ((l ++ cs).map (Value.int .i64))∧Below n0 V w':=by
 obtain ⟨i0,hi,hz0,hz1,hz2⟩:=info_parts (P:=Tryz.prog) (e:=3) (z:=.int .i64 0) (size:=1) (bytes:=8) (by kernel_rfl)
 have hb:(V.alloc (.cells (cs.map (Value.int .i64)).toArray 3)).heap[V.heap.size]? = some (.cells (cs.map (Value.int .i64)).toArray 3):=by
  show (V.heap.push _)[V.heap.size]? = _;rw [Array.getElem?_push,if_pos rfl]
 obtain ⟨v',w2,hrun,hown',hgrow,_⟩:=run_append_own_at (P:=Tryz.prog) (V.alloc (.cells (cs.map (Value.int .i64)).toArray 3)) n0 46 46 3 i0 (.int .i64 0) 1 8 Tryz.underlying46 hi hz0 hz1 hz2 rfl (by decide) v l.length (l.map (Value.int .i64)) (hown.alloc _) ⟨V.heap.size,0,none⟩ cs.length cs.length (cs.map (Value.int .i64)) (by simp) (fun j u hj=>by
  rw [show (⟨V.heap.size,0,none⟩:Addr).add j=⟨V.heap.size,j,none⟩ by simp [Addr.add_lit],Lib.cell_of_heap hb,←hj]
  simp) (by intro x hx;obtain ⟨y,_,rfl⟩:=List.mem_map.1 hx;rfl) (by unfold maxLen;omega) (by omega) (by simp;omega)
 rw [←List.map_append,←List.length_append] at hown'
 exact ⟨v',w2,fun _=>hrun,hown',((Below.refl _ V).alloc hn _).grown hgrow (by simp;omega) (fun k hk=>(hown.lt k hk).1)⟩
section
variable {w:World}{A:Nat→Prop}{cb kb:Nat}{nv tv:Value}{ns:List Int}{ts:List az}{p a b c:Int}{word s t:az}{on:Bool}
theorem abu {l o n:Int}(g:Gv w A cb kb nv tv ns ts) (hw:word.length≤100000) (hL:∀V,Below w.heap.size w V→Calls Tryz.prog 86 #[wp kb] V fun y w'=>y=.returned (.int .i64 l)∧w'=V) (hO:∀V,Below w.heap.size w V→Calls Tryz.prog 87 #[wp kb] V fun y w'=>y=.returned (.int .i64 o)∧w'=V) (hN:∀V,Below w.heap.size w V→Calls Tryz.prog 88 #[wp kb] V fun y w'=>y=.returned (.int .i64 n)∧w'=V) (hi:∀z∈[l,o,n],dH z) :
 Calls Tryz.prog 40 #[wp cb,dR p word nv tv on] w fun e w'=>e=.returned (tx (word ++ aQ [l,o,n]))∧Below w.heap.size w w':=by
 obtain ⟨x,wA,nb,no,nd,nc,tb,tf,td,tc,hx,rfl,rfl,dx,bA,hnc,htc,hnd,htd,hall⟩:=g.box p word on
 have HA:Aside _:=hall
 have k9:Wt A wA wA.drew:=Wt.eY wA
 have bD:=bA.drew
 have k8:Wt A wA (wA.drew.alloc (.cells #[.int .i64 l,.int .i64 o,.int .i64 n] 3)):=k9.trans (.below A ((Below.refl _ _).alloc (Nat.le_refl _) _))
 have hL1:=hL wA.drew bD
 have hO1:=hO wA.drew bD
 have hN1:=hN wA.drew bD
 have hT:=jE wA.drew (HA.out _ k9).gl p word (.slice nd ns.length nc) (.slice td ts.length tc) on [l,o,n] (by simp) 0 (fun _=>hi) hw
 have HB:Aside (∀w2,Below wA.drew.heap.size wA.drew w2→Below w.heap.size w w2):=fun w2 b=>bD.trans (b.mono bD.size)
 clear hL hO hN hall g hi
 go_enter Tryz.func40,Tryz.ntmps40
 go_upto_region 1 with fail
 rw [←dx,←hx]
 clear dx hx
 go_region_held3 (fun w'=>w'.cell? ⟨cb,0,none⟩=some (wp kb)∧w'.cell? ⟨x,0,none⟩=some (.int .i64 p)∧w'.cell? ⟨x,1,none⟩=some (tx word)∧w'.cell? ⟨x,2,none⟩=some (.slice nd ns.length nc)∧w'.cell? ⟨x,3,none⟩=some (.slice td ts.length tc)∧w'.cell? ⟨x,4,none⟩=some (.bool on)) (first|exact (HA.out _ k9).Zw|exact (HA.out _ k8).Zw|exact (HA.out _ k7).Zw) (first
  |(go_at_call 86;refine hL1.mono ?_;rintro y w1 ⟨rfl,rfl⟩)
  |(go_at_call 87;refine hO1.mono ?_;rintro y w1 ⟨rfl,rfl⟩)
  |(go_at_call 88;refine hN1.mono ?_;rintro y w1 ⟨rfl,rfl⟩)
  |(go_at_call 85;refine hT.mono ?_;rintro y w2 ⟨⟨hc,rfl⟩|⟨hc,rfl⟩,b9⟩;rotate_left;exact absurd rfl hc;have k7:Wt A wA w2:=k9.trans (.below A b9)))
 all_goals
  go_wp2_with fail
  go_ret
  exact ⟨rfl,HB.out _ b9⟩
theorem MU {Rn:Nat→World→Prop}{N:Int→Prop}{Y:Prop}(g:Gv w A cb kb nv tv [a] ts) (hf:w.frozen? ⟨cb,0,none⟩=false) (hcb:9≤cb) (hw:word.length≤100000) (hX:(∃c,N c∧c≠0∧∀V,Below w.heap.size w V→Calls Tryz.prog 6 #[.int .i64 a] V fun y w'=>y=.returned (.tuple #[.pointer none,eQ c])∧w'=V)∨(Y∧∀V,Below w.heap.size w V→Calls Tryz.prog 6 #[.int .i64 a] V fun y w'=>∃k,y=.returned (.tuple #[wp k,.nilIface])∧Rn k w'∧Below V.heap.size V w')) :
 Calls Tryz.prog 43 #[wp cb,dR p word nv tv on] w fun e w'=>(∃c,N c∧e=thrown (eQ c)∧Below w.heap.size w w')∨Y∧∃k V,e=.returned (tx word)∧Below w.heap.size w V∧Rn k V∧Below V.heap.size (V.setCell ⟨cb,0,none⟩ (wp k)) w':=by
 obtain ⟨x,wA,nb,no,nd,nc,tb,tf,td,tc,hx,rfl,rfl,dx,bA,hnc,htc,hnd,htd,hall⟩:=g.box p word on
 obtain rfl:=hnd (by simp)
 rw [show [a].length=1 from rfl] at *
 have afN:cb<w.heap.size:=World.block_lt_of_cell? w _ g.k
 have HA:Aside _:=hall
 obtain ⟨-,c0,b0,b1,b2,b3,b4,I7,-⟩:=hall wA (Wt.below A (Below.refl _ _))
 have n0:wA.cell? ⟨nb,no,none⟩=some (.int .i64 a):=I7 0 (by simp)
 clear I7 hall
 rcases hX with ⟨c,hNc,hc,hX⟩|⟨hY,hX⟩
 ·have hX1:=hX wA bA
  have hK:=zP c
  have HX:Aside (N c):=hNc
  clear hNc
  clear hX g
  go_enter Tryz.func43,Tryz.ntmps43
  go_upto_region 1 with fail
  rw [←dx,←hx]
  clear dx hx
  go_wp2_with (first
   |(go_at_call 6;refine hX1.mono ?_;rintro y w1 ⟨rfl,rfl⟩)
   |(go_at_call 77;refine (hK _).mono ?_;rintro y w2 ⟨rfl,hw2⟩;subst w2))
  exact ⟨rfl,.inl ⟨c,HX.out,rfl,bA⟩⟩
 ·have hX1:=hX wA bA
  have hK:=zO
  have HN:Aside (∀k w1,Below wA.heap.size wA w1→w1.cell? ⟨cb,0,none⟩=some (wp kb)∧w1.frozen? ⟨cb,0,none⟩=false∧((w1.setCell ⟨cb,0,none⟩ (wp k)).cell? ⟨x,0,none⟩=some (.int .i64 p)∧(w1.setCell ⟨cb,0,none⟩ (wp k)).cell? ⟨x,1,none⟩=some (tx word)∧(w1.setCell ⟨cb,0,none⟩ (wp k)).cell? ⟨x,2,none⟩=some (.slice (some ⟨nb,no,none⟩) 1 nc)∧(w1.setCell ⟨cb,0,none⟩ (wp k)).cell? ⟨x,3,none⟩=some (.slice td ts.length tc)∧(w1.setCell ⟨cb,0,none⟩ (wp k)).cell? ⟨x,4,none⟩=some (.bool on))∧Calls Tryz.prog 85 #[dR p word (.slice (some ⟨nb,no,none⟩) 1 nc) (.slice td ts.length tc) on,aI 0,.slice none 0 0] (w1.setCell ⟨cb,0,none⟩ (wp k)) fun e w'=>TO word 0 e∧Below w1.heap.size (w1.setCell ⟨cb,0,none⟩ (wp k)) w'):=fun k w1 b=>by
   have k1:Wt A wA w1:=.below A b
   have ks:Wt (fun i=>i=cb) w1 (w1.setCell ⟨cb,0,none⟩ (wp k)):=⟨rfl,rfl,rfl,by simp,fun i hi hA=>Below.heap_setCell _ _ _ _ hA⟩
   obtain ⟨gl,e0,e1,e2,e3,e4,e5,_,_⟩:=HA.out w1 k1
   have hne:¬x=cb:=by omega
   refine ⟨e0,?_,⟨ks.cell e1 hne,ks.cell e2 hne,ks.cell e3 hne,ks.cell e4 hne,ks.cell e5 hne⟩,?_⟩
   ·have:=(bA.trans (b.mono bA.size)).frozen (p:=⟨cb,0,none⟩) afN
    rw [this];exact hf
   ·have:=told_none (w1.setCell ⟨cb,0,none⟩ (wp k)) (gl.wt ks (fun i hi=>by rw [hi];exact hcb)) p word (.slice (some ⟨nb,no,none⟩) 1 nc) (.slice td ts.length tc) on 0 hw
    rwa [show (w1.setCell ⟨cb,0,none⟩ (wp k)).heap.size=w1.heap.size by simp [World.setCell]] at this
  have HB:Aside (∀w1,Below wA.heap.size wA w1→Below w.heap.size w w1):=fun w1 b=>bA.trans (b.mono bA.size)
  have HY:Aside Y:=hY
  clear hX g hY
  go_enter Tryz.func43,Tryz.ntmps43
  go_upto_region 1 with fail
  rw [←dx,←hx]
  clear dx hx
  go_wp2_with (first
   |(go_at_call 6;refine hX1.mono ?_;rintro y w1 ⟨k,rfl,hr,b9⟩;obtain ⟨m0,m1,⟨z0,z1,z2,z3,z4⟩,hT⟩:=HN.out k w1 b9)
   |(go_at_call 77;refine (hK _).mono ?_;rintro y w2 ⟨rfl,hw2⟩;subst w2)
   |(go_at_call 85;refine hT.mono ?_;rintro y w3 ⟨⟨hc,rfl⟩|⟨hc,rfl⟩,b8⟩;rotate_left;exact absurd rfl hc))
  go_ret
  exact .inr ⟨HY.out,k,w1,rfl,HB.out w1 b9,hr,b8⟩
theorem abl {L:List Int}{st:Int→Int}(g:Gv w A cb kb nv tv ns ts) (hw:word.length≤100000) (hP:∀V,Below w.heap.size w V→Calls Tryz.prog 90 #[wp kb] V fun y w'=>∃b cap,y=.returned (.slice (some ⟨b,0,none⟩) L.length cap)∧L.length≤cap∧b<w'.heap.size∧(∀i (hi:i<L.length),w'.cell? ⟨b,i,none⟩=some (.int .i64 L[i]))∧Below V.heap.size V w') (hS:∀V n,n∈L→Below w.heap.size w V→Calls Tryz.prog 91 #[wp kb,.int .i64 n] V fun y w'=>y=.returned (.int .i64 (st n))∧Below V.heap.size V w') (hL:L.length≤100) (hi:∀n∈L,dH n∧dH (st n)) :
 Calls Tryz.prog 44 #[wp cb,dR p word nv tv on] w fun e w'=>e=.returned (tx (word ++ aQ (mY L st)))∧Below w.heap.size w w':=by
 obtain ⟨x,wA,nb,no,nd,nc,tb,tf,td,tc,hx,rfl,rfl,dx,bA,hnc,htc,hnd,htd,hall⟩:=g.box p word on
 have HA:Aside _:=hall
 obtain ⟨-,c0,-,-,-,-,-,-,-⟩:=hall wA (Wt.below A (Below.refl _ _))
 have hP1:=hP wA bA
 have HS:Aside _:=hS
 have HI:Aside (∀z∈mY L st,dH z):=fun z hz=>by
  unfold mY at hz
  obtain ⟨n,hn,h⟩:=List.mem_flatMap.1 hz
  have:=hi n hn
  simp only [List.mem_cons,List.not_mem_nil,or_false] at h
  rcases h with rfl|rfl
  ·exact this.1
  ·exact this.2
 have HB:Aside (∀w1,Below wA.heap.size wA w1→Below w.heap.size w w1):=fun w1 b=>bA.trans (b.mono bA.size)
 clear hP hS hall g hi
 go_enter Tryz.func44,Tryz.ntmps44
 go_upto_region 2 with fail
 rw [←dx,←hx]
 clear dx hx
 go_upto_region 3 with (go_at_call 90;refine hP1.mono ?_;rintro y w1 ⟨pb,pc,rfl,hpc,hpl,hcl,b9⟩)
 have HC:Aside (∀V,Below w1.heap.size w1 V→V.cell? ⟨cb,0,none⟩=some (wp kb)∧(∀i (hi:i<L.length),V.cell? ⟨pb,i,none⟩=some (.int .i64 L[i]))∧Below wA.heap.size wA V∧Wt A wA V):=fun V b=>by
  have b7:=b9.trans (b.mono b9.size)
  exact ⟨(HA.out V (.below A b7)).c0,fun i hi=>by rw [b.cell (p:=⟨pb,i,none⟩) hpl];exact hcl i hi,b7,.below A b7⟩
 have hr0:Below w1.heap.size w1 w1:=Below.refl _ _
 obtain ⟨B,hB⟩:∃B,w1.heap.size=B:=⟨_,rfl⟩
 have hBl:∀V,Below B w1 V→B≤V.heap.size:=fun V b=>by rw [←hB];exact b.size
 have HL:Aside _:=hBl
 rw [hB] at HC hr0
 clear hcl hP1 hpl hBl
 go_loopg [5,14] L.length (fun mm s5 s14 wr=>∃i:Nat,i+mm=L.length∧s14=.int .i64 (i:Int)∧wr.ownsRow B 3 1 s5 (mY (L.take i) st).length ((mY (L.take i) st).map (Value.int .i64))∧Below B w1 wr)
 case atStart=>exact ⟨0,by omega,rfl,World.ownsRow_nil _ _ _ _,hr0⟩
 case round=>
  obtain ⟨i,hi9,rfl,own,bw⟩:=hrel
  by_cases hlt:(i:Int)<(L.length:Int)
  ·have aG:i<L.length:=by omega
   have hT:=Kg st aG
   have hln:=wG (L.take i) st
   rw [List.length_take] at hln
   obtain ⟨z0,z1,z2,z3⟩:=HC.out wr bw
   have y0:=z1 i aG
   have hS1:=HS.out wr L[i] (List.getElem_mem aG) (HB.out wr z2)
   have HT:Aside _:=hT
   have hic:(i:Int)<(pc:Int):=by omega
   clear hT z1
   generalize L[i]=q at *
   have hge:=HL.out wr bw
   go_upto_region 6 with (first
    |(go_at_call 91;refine hS1.mono ?_;rintro y w2 ⟨rfl,b2⟩;obtain ⟨v3,w3,hr,acv,b3⟩:=Ve (rC own b2) (by have:=b2.size;omega) [q,st q] (by simp only [List.length_cons,List.length_nil];omega))
    |(at_builtin;refine ib rfl _ _ 46 46 rfl _ _ _ w3 rfl rfl hr ?_))
   clear hr
   rw [←HT.out] at acv
   go_wp2_with fail
   go_roundg (gk-1)
   case measure=>omega
   case rel=>exact ⟨i+1,by omega,by go_num,acv,(bw.trans (b2.mono hge)).trans b3⟩
  ·have aG:i=L.length:=by omega
   rw [aG,List.take_length] at own
   clear aG
   obtain ⟨z0,z1,z2,z3⟩:=HC.out wr bw
   obtain ⟨gl,-,d0,d1,d2,d3,d4,-,-⟩:=HA.out wr z3
   obtain ⟨ad,cap,rfl,hin⟩:=BO.row own
   have hln:=wG L st
   have hT:=uT wr gl p word (.slice nd ns.length nc) (.slice td ts.length tc) on ad (mY L st) cap hin (by omega) 0 (fun _=>HI.out) hw
   clear z1 own gl hin hln
   rw [aB] at hT
   go_wp2_with (go_at_call 85;refine hT.mono ?_;rintro y w2 ⟨⟨hc,rfl⟩|⟨hc,rfl⟩,b8⟩;rotate_left;exact absurd rfl hc)
   go_ret
   exact ⟨rfl,HB.out w2 (z2.trans (b8.mono z2.size))⟩
end
end Go.Proofs.YtippochapiolpaaGreatDoor
namespace Go.Proofs.YtippochapiolpaaGreatDoor
open Go.RowKit Go.Maps
structure Ck (w:World) (cb kb g1 g2:Nat):Prop where
 blk:w.heap[cb]? = some (.cells #[wp kb,.map (some g1),.map (some g2)] 70)
 t1:TM w cb g1 dJ
 t2:TM w cb g2 df
theorem DL {w:World}{cb g:Nat}{L:Lm}(h:TM w cb g L) (i:Nat) (v:Value) (hne:g≠cb):TM (w.setCell ⟨cb,i,none⟩ v) cb g L:=h.keep (Below.heap_setCell _ _ _ _ hne)
theorem Ip (w:World) (kb:Nat):Calls Tryz.prog 7 #[wp kb] w fun e w'=>∃cb g1 g2,e=.returned (wp cb)∧Ck w' cb kb g1 g2∧(w.heap.size≤cb∧w.heap.size≤g1∧w.heap.size≤g2∧cb≠g1∧cb≠g2)∧Below w.heap.size w w':=by
 have hT:=Fj
 have hC:=IM
 obtain ⟨cb,hcb⟩:∃cb,w.heap.size=cb:=⟨_,rfl⟩
 obtain ⟨w0,hw0⟩:∃w0,w.alloc (.cells #[wp kb,.map none,.map none] 70)=w0:=⟨_,rfl⟩
 have b0:Below w.heap.size w w0:=by rw [←hw0];exact (Below.refl _ _).alloc (Nat.le_refl _) _
 have h0:w0.heap[cb]? = some (.cells #[wp kb,.map none,.map none] 70):=by
  rw [←hw0,←hcb];show (w.heap.push _)[w.heap.size]? = _;rw [Array.getElem?_push,if_pos rfl]
 have HN:Aside (∀w1 w2 g1 g2,TM w1 cb g1 dJ→w0.heap.size≤g1→Below w0.heap.size w0 w1→TM w2 cb g2 df→w1.heap.size≤g2→Below w1.heap.size w1 w2→(w2.cell? ⟨cb,1,none⟩=some (.map none)∧w2.frozen? ⟨cb,1,none⟩=false∧w2.cell? ⟨cb,2,none⟩=some (.map none)∧w2.frozen? ⟨cb,2,none⟩=false)∧Ck ((w2.setCell ⟨cb,1,none⟩ (.map (some g1))).setCell ⟨cb,2,none⟩ (.map (some g2))) cb kb g1 g2∧(w.heap.size≤cb∧w.heap.size≤g1∧w.heap.size≤g2∧cb≠g1∧cb≠g2)∧Below w.heap.size w ((w2.setCell ⟨cb,1,none⟩ (.map (some g1))).setCell ⟨cb,2,none⟩ (.map (some g2)))):=fun w1 w2 g1 g2 t1 l1 b1 t2 l2 b2=>by
  have hlt:=(Array.getElem?_eq_some_iff.1 h0).1
  have l0:=b0.size
  have l01:=b1.size
  have h2:w2.heap[cb]? = some (.cells #[wp kb,.map none,.map none] 70):=(b2.block cb (by omega)).trans ((b1.block cb hlt).trans h0)
  have t1':=t1.keep (w':=w2) (b2.block g1 t1.lt)
  have hne1:g1≠cb:=by omega
  have hne2:g2≠cb:=by omega
  refine ⟨⟨by rw [Lib.cell_of_heap h2];rfl,Lib.frozen_of_heap h2 1,by rw [Lib.cell_of_heap h2];rfl,Lib.frozen_of_heap h2 2⟩,⟨?_,DL (DL t1' 1 _ hne1) 2 _ hne1,DL (DL t2 1 _ hne2) 2 _ hne2⟩,⟨by omega,by omega,by omega,fun e=>hne1 e.symm,fun e=>hne2 e.symm⟩,?_⟩
  ·simp [World.setCell,Array.getElem?_modify,h2]
  ·exact ((b0.trans ((b1.trans (b2.mono l01)).mono l0)).setCell (by show w.heap.size≤cb;omega) _).setCell (by show w.heap.size≤cb;omega) _
 have hz:∀V:World,V.heap.size=cb→True:=fun _ _=>trivial
 clear hz b0 h0
 go_enter Tryz.func7,Tryz.ntmps7
 go_upto_region 2 with fail
 clear hw0
 go_wp2_with (first
  |(go_at_call 21;refine (hT _ cb).mono ?_;rintro e w1 ⟨g1,rfl,t1,l1,b1⟩)
  |(go_at_call 22;refine (hC _ cb).mono ?_;rintro e w2 ⟨g2,rfl,t2,l2,b2⟩;obtain ⟨⟨y1,y2,y3,y4⟩,hR⟩:=HN.out w1 w2 g1 g2 t1 l1 b1 t2 l2 b2;have HR:Aside _:=hR;clear hR))
 go_ret
 exact ⟨cb,g1,g2,rfl,HR.out⟩
end Go.Proofs.YtippochapiolpaaGreatDoor

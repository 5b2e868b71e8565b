/- The keeper's rarer calls (written by ccall.py). -/
import Derived.Test.YtcfhanoekniaaaaGreatDoorZTalks
import Derived.Test.YtcfhanoekniaaaaGreatDoorPick
import Derived.Deep.RegionHeld3
import Derived.BigQuiet
import Derived.Deep.LoopGhost
set_option maxHeartbeats 8000000
set_option maxRecDepth 100000
namespace Go.Proofs.YtcfhanoekniaaaaGreatDoor
open Go.RowKit Go.Maps
section
variable {w w':World}{m:Int}{H:KH}{S:KS}{q:Nat}{A:Nat→Prop}{p a b c:Int}{s t:List UInt8}
theorem new_seven (w:World) (a b c d e x y:Value) (t:TypeId):(w.alloc (.cells #[a,b,c,d,e,x,y] t)).heap[w.heap.size]? = some (.cells #[a,b,c,d,e,x,y] t):=by
 show (w.heap.push _)[w.heap.size]? = _
 rw [Array.getElem?_push,if_pos rfl]
theorem cc_cells (w:World) (a b c d e x y:Value):∀T,(w.alloc (.cells #[a,b,c,d,e,x,y] T)).cell? ⟨w.heap.size,0,none⟩=some a∧(w.alloc (.cells #[a,b,c,d,e,x,y] T)).cell? ⟨w.heap.size,1,none⟩=some b∧(w.alloc (.cells #[a,b,c,d,e,x,y] T)).cell? ⟨w.heap.size,2,none⟩=some c∧(w.alloc (.cells #[a,b,c,d,e,x,y] T)).cell? ⟨w.heap.size,3,none⟩=some d∧(w.alloc (.cells #[a,b,c,d,e,x,y] T)).cell? ⟨w.heap.size,4,none⟩=some e∧(w.alloc (.cells #[a,b,c,d,e,x,y] T)).cell? ⟨w.heap.size,5,none⟩=some x∧(w.alloc (.cells #[a,b,c,d,e,x,y] T)).cell? ⟨w.heap.size,6,none⟩=some y:=fun T=>by
 have h:=new_seven w a b c d e x y T
 exact ⟨by rw [cell_of_row _ _ _ _ _ _ h];rfl,by rw [cell_of_row _ _ _ _ _ _ h];rfl,by rw [cell_of_row _ _ _ _ _ _ h];rfl,by rw [cell_of_row _ _ _ _ _ _ h];rfl,by rw [cell_of_row _ _ _ _ _ _ h];rfl,by rw [cell_of_row _ _ _ _ _ _ h];rfl,by rw [cell_of_row _ _ _ _ _ _ h];rfl⟩
theorem rare_19 (h:KN w m H S q A) (_hk:H.ok=true) (_hq:q≤90) (hp:(Lit.int .i64 p).wf=true) (_ha:(Lit.int .i64 a).wf=true) (_hb:b≤9223372036854775807) (_hs:s.length<100000) (_ht:t.length<100000) :
 Calls Tryz.prog 110 #[wp H.kb,.agg #[.int .i64 19,.int .i64 p,.int .i64 a,.int .i64 b,.int .i64 c,tx s,tx t]] w (CallO w m H S q A p a b c s t 19):=by
 obtain ⟨J,hJ⟩:∃J,w.heap.size=J:=⟨_,rfl⟩
 obtain ⟨xs,hxs⟩:∃xs:Array Value,#[.int .i64 19,.int .i64 p,.int .i64 a,.int .i64 b,.int .i64 c,tx s,tx t]=xs:=⟨_,rfl⟩
 have b0:Below w.heap.size w (w.alloc (.cells xs 71)):=(Below.refl _ _).alloc (Nat.le_refl _) _
 have h0:=h.below b0
 obtain ⟨z0,z1,z2,z3,z4,z5,z6⟩:=cc_cells w (.int .i64 19) (.int .i64 p) (.int .i64 a) (.int .i64 b) (.int .i64 c) (tx s) (tx t) 71
 rw [hxs,hJ] at z0 z1 z2 z3 z4 z5 z6
 go_enter Tryz.func110,Tryz.ntmps110
 go_upto_region 1 with fail
 generalize w.alloc (.cells xs 71)=wA at *
 clear hxs hJ
 have hP:=any_limit (a:=a) (b:=b) (c:=c) (s:=s) (t:=t) h0 hp
 go_wp2_with (go_at_call 41;refine hP.mono ?_;rintro e w1 ⟨c1,S1,rfl,hR,hN⟩)
 go_ret
 exact ⟨c1,S1,rfl,hR,hN.before b0⟩
theorem rare_20 (h:KN w m H S q A) (_hk:H.ok=true) (_hq:q≤90) (hp:(Lit.int .i64 p).wf=true) (ha:(Lit.int .i64 a).wf=true) (_hb:b≤9223372036854775807) (_hs:s.length<100000) (_ht:t.length<100000) :
 Calls Tryz.prog 110 #[wp H.kb,.agg #[.int .i64 20,.int .i64 p,.int .i64 a,.int .i64 b,.int .i64 c,tx s,tx t]] w (CallO w m H S q A p a b c s t 20):=by
 obtain ⟨J,hJ⟩:∃J,w.heap.size=J:=⟨_,rfl⟩
 obtain ⟨xs,hxs⟩:∃xs:Array Value,#[.int .i64 20,.int .i64 p,.int .i64 a,.int .i64 b,.int .i64 c,tx s,tx t]=xs:=⟨_,rfl⟩
 have b0:Below w.heap.size w (w.alloc (.cells xs 71)):=(Below.refl _ _).alloc (Nat.le_refl _) _
 have h0:=h.below b0
 obtain ⟨z0,z1,z2,z3,z4,z5,z6⟩:=cc_cells w (.int .i64 20) (.int .i64 p) (.int .i64 a) (.int .i64 b) (.int .i64 c) (tx s) (tx t) 71
 rw [hxs,hJ] at z0 z1 z2 z3 z4 z5 z6
 go_enter Tryz.func110,Tryz.ntmps110
 go_upto_region 1 with fail
 generalize w.alloc (.cells xs 71)=wA at *
 clear hxs hJ
 have hP:=any_kill (a:=a) (b:=b) (c:=c) (s:=s) (t:=t) h0 hp ha
 go_wp2_with (go_at_call 92;refine hP.mono ?_;rintro e w1 ⟨c1,S1,rfl,hR,hN⟩)
 go_ret
 exact ⟨c1,S1,rfl,hR,hN.before b0⟩
theorem rare_21 (h:KN w m H S q A) (hk:H.ok=true) (hq:q≤90) (hp:(Lit.int .i64 p).wf=true) (_ha:(Lit.int .i64 a).wf=true) (_hb:b≤9223372036854775807) (_hs:s.length<100000) (_ht:t.length<100000) :
 Calls Tryz.prog 110 #[wp H.kb,.agg #[.int .i64 21,.int .i64 p,.int .i64 a,.int .i64 b,.int .i64 c,tx s,tx t]] w (CallO w m H S q A p a b c s t 21):=by
 obtain ⟨J,hJ⟩:∃J,w.heap.size=J:=⟨_,rfl⟩
 obtain ⟨xs,hxs⟩:∃xs:Array Value,#[.int .i64 21,.int .i64 p,.int .i64 a,.int .i64 b,.int .i64 c,tx s,tx t]=xs:=⟨_,rfl⟩
 have b0:Below w.heap.size w (w.alloc (.cells xs 71)):=(Below.refl _ _).alloc (Nat.le_refl _) _
 have h0:=h.below b0
 obtain ⟨z0,z1,z2,z3,z4,z5,z6⟩:=cc_cells w (.int .i64 21) (.int .i64 p) (.int .i64 a) (.int .i64 b) (.int .i64 c) (tx s) (tx t) 71
 rw [hxs,hJ] at z0 z1 z2 z3 z4 z5 z6
 go_enter Tryz.func110,Tryz.ntmps110
 go_upto_region 1 with fail
 generalize w.alloc (.cells xs 71)=wA at *
 clear hxs hJ
 have hP:=any_signal (a:=a) (b:=b) (c:=c) (s:=s) (t:=t) h0 hk hq hp
 go_wp2_with (go_at_call 26;refine hP.mono ?_;rintro e w1 ⟨n1,c1,S1,rfl,hR,hN⟩)
 go_ret
 exact ⟨c1,S1,rfl,hR,hN.before b0⟩
theorem rare_22 (h:KN w m H S q A) (_hk:H.ok=true) (hq:q≤90) (hp:(Lit.int .i64 p).wf=true) (_ha:(Lit.int .i64 a).wf=true) (_hb:b≤9223372036854775807) (hs:s.length<100000) (_ht:t.length<100000) :
 Calls Tryz.prog 110 #[wp H.kb,.agg #[.int .i64 22,.int .i64 p,.int .i64 a,.int .i64 b,.int .i64 c,tx s,tx t]] w (CallO w m H S q A p a b c s t 22):=by
 obtain ⟨J,hJ⟩:∃J,w.heap.size=J:=⟨_,rfl⟩
 obtain ⟨xs,hxs⟩:∃xs:Array Value,#[.int .i64 22,.int .i64 p,.int .i64 a,.int .i64 b,.int .i64 c,tx s,tx t]=xs:=⟨_,rfl⟩
 have b0:Below w.heap.size w (w.alloc (.cells xs 71)):=(Below.refl _ _).alloc (Nat.le_refl _) _
 have h0:=h.below b0
 obtain ⟨z0,z1,z2,z3,z4,z5,z6⟩:=cc_cells w (.int .i64 22) (.int .i64 p) (.int .i64 a) (.int .i64 b) (.int .i64 c) (tx s) (tx t) 71
 rw [hxs,hJ] at z0 z1 z2 z3 z4 z5 z6
 go_enter Tryz.func110,Tryz.ntmps110
 go_upto_region 1 with fail
 generalize w.alloc (.cells xs 71)=wA at *
 clear hxs hJ
 have hP:=any_mkdir (a:=a) (b:=b) (c:=c) (s:=s) (t:=t) h0 hq hp hs
 go_wp2_with (go_at_call 191;refine hP.mono ?_;rintro e w1 ⟨c1,S1,rfl,hR,hN⟩)
 go_ret
 exact ⟨c1,S1,rfl,hR,hN.before b0⟩
theorem rare_23 (h:KN w m H S q A) (_hk:H.ok=true) (hq:q≤90) (hp:(Lit.int .i64 p).wf=true) (_ha:(Lit.int .i64 a).wf=true) (_hb:b≤9223372036854775807) (hs:s.length<100000) (_ht:t.length<100000) :
 Calls Tryz.prog 110 #[wp H.kb,.agg #[.int .i64 23,.int .i64 p,.int .i64 a,.int .i64 b,.int .i64 c,tx s,tx t]] w (CallO w m H S q A p a b c s t 23):=by
 obtain ⟨J,hJ⟩:∃J,w.heap.size=J:=⟨_,rfl⟩
 obtain ⟨xs,hxs⟩:∃xs:Array Value,#[.int .i64 23,.int .i64 p,.int .i64 a,.int .i64 b,.int .i64 c,tx s,tx t]=xs:=⟨_,rfl⟩
 have b0:Below w.heap.size w (w.alloc (.cells xs 71)):=(Below.refl _ _).alloc (Nat.le_refl _) _
 have h0:=h.below b0
 obtain ⟨z0,z1,z2,z3,z4,z5,z6⟩:=cc_cells w (.int .i64 23) (.int .i64 p) (.int .i64 a) (.int .i64 b) (.int .i64 c) (tx s) (tx t) 71
 rw [hxs,hJ] at z0 z1 z2 z3 z4 z5 z6
 go_enter Tryz.func110,Tryz.ntmps110
 go_upto_region 1 with fail
 generalize w.alloc (.cells xs 71)=wA at *
 clear hxs hJ
 have hP:=any_unlink (a:=a) (b:=b) (c:=c) (s:=s) (t:=t) h0 hq hp hs
 go_wp2_with (go_at_call 193;refine hP.mono ?_;rintro e w1 ⟨c1,S1,rfl,hR,hN⟩)
 go_ret
 exact ⟨c1,S1,rfl,hR,hN.before b0⟩
theorem rare_24 (h:KN w m H S q A) (_hk:H.ok=true) (hq:q≤90) (hp:(Lit.int .i64 p).wf=true) (_ha:(Lit.int .i64 a).wf=true) (_hb:b≤9223372036854775807) (hs:s.length<100000) (ht:t.length<100000) :
 Calls Tryz.prog 110 #[wp H.kb,.agg #[.int .i64 24,.int .i64 p,.int .i64 a,.int .i64 b,.int .i64 c,tx s,tx t]] w (CallO w m H S q A p a b c s t 24):=by
 obtain ⟨J,hJ⟩:∃J,w.heap.size=J:=⟨_,rfl⟩
 obtain ⟨xs,hxs⟩:∃xs:Array Value,#[.int .i64 24,.int .i64 p,.int .i64 a,.int .i64 b,.int .i64 c,tx s,tx t]=xs:=⟨_,rfl⟩
 have b0:Below w.heap.size w (w.alloc (.cells xs 71)):=(Below.refl _ _).alloc (Nat.le_refl _) _
 have h0:=h.below b0
 obtain ⟨z0,z1,z2,z3,z4,z5,z6⟩:=cc_cells w (.int .i64 24) (.int .i64 p) (.int .i64 a) (.int .i64 b) (.int .i64 c) (tx s) (tx t) 71
 rw [hxs,hJ] at z0 z1 z2 z3 z4 z5 z6
 go_enter Tryz.func110,Tryz.ntmps110
 go_upto_region 1 with fail
 generalize w.alloc (.cells xs 71)=wA at *
 clear hxs hJ
 have hP:=any_rename (a:=a) (b:=b) (c:=c) (s:=s) (t:=t) h0 hq hp hs ht
 go_wp2_with (go_at_call 194;refine hP.mono ?_;rintro e w1 ⟨c1,S1,rfl,hR,hN⟩)
 go_ret
 exact ⟨c1,S1,rfl,hR,hN.before b0⟩
theorem rare_25 (h:KN w m H S q A) (_hk:H.ok=true) (_hq:q≤90) (hp:(Lit.int .i64 p).wf=true) (_ha:(Lit.int .i64 a).wf=true) (hb:b≤9223372036854775807) (_hs:s.length<100000) (_ht:t.length<100000) :
 Calls Tryz.prog 110 #[wp H.kb,.agg #[.int .i64 25,.int .i64 p,.int .i64 a,.int .i64 b,.int .i64 c,tx s,tx t]] w (CallO w m H S q A p a b c s t 25):=by
 obtain ⟨J,hJ⟩:∃J,w.heap.size=J:=⟨_,rfl⟩
 obtain ⟨xs,hxs⟩:∃xs:Array Value,#[.int .i64 25,.int .i64 p,.int .i64 a,.int .i64 b,.int .i64 c,tx s,tx t]=xs:=⟨_,rfl⟩
 have b0:Below w.heap.size w (w.alloc (.cells xs 71)):=(Below.refl _ _).alloc (Nat.le_refl _) _
 have h0:=h.below b0
 obtain ⟨z0,z1,z2,z3,z4,z5,z6⟩:=cc_cells w (.int .i64 25) (.int .i64 p) (.int .i64 a) (.int .i64 b) (.int .i64 c) (tx s) (tx t) 71
 rw [hxs,hJ] at z0 z1 z2 z3 z4 z5 z6
 go_enter Tryz.func110,Tryz.ntmps110
 go_upto_region 1 with fail
 generalize w.alloc (.cells xs 71)=wA at *
 clear hxs hJ
 have hP:=any_protect (a:=a) (b:=b) (c:=c) (s:=s) (t:=t) h0 hp hb
 go_wp2_with (go_at_call 96;refine hP.mono ?_;rintro e w1 ⟨c1,S1,rfl,hR,hN⟩)
 go_ret
 exact ⟨c1,S1,rfl,hR,hN.before b0⟩
theorem rare_26 (h:KN w m H S q A) (_hk:H.ok=true) (_hq:q≤90) (hp:(Lit.int .i64 p).wf=true) (_ha:(Lit.int .i64 a).wf=true) (_hb:b≤9223372036854775807) (_hs:s.length<100000) (_ht:t.length<100000) :
 Calls Tryz.prog 110 #[wp H.kb,.agg #[.int .i64 26,.int .i64 p,.int .i64 a,.int .i64 b,.int .i64 c,tx s,tx t]] w (CallO w m H S q A p a b c s t 26):=by
 obtain ⟨J,hJ⟩:∃J,w.heap.size=J:=⟨_,rfl⟩
 obtain ⟨xs,hxs⟩:∃xs:Array Value,#[.int .i64 26,.int .i64 p,.int .i64 a,.int .i64 b,.int .i64 c,tx s,tx t]=xs:=⟨_,rfl⟩
 have b0:Below w.heap.size w (w.alloc (.cells xs 71)):=(Below.refl _ _).alloc (Nat.le_refl _) _
 have h0:=h.below b0
 obtain ⟨z0,z1,z2,z3,z4,z5,z6⟩:=cc_cells w (.int .i64 26) (.int .i64 p) (.int .i64 a) (.int .i64 b) (.int .i64 c) (tx s) (tx t) 71
 rw [hxs,hJ] at z0 z1 z2 z3 z4 z5 z6
 go_enter Tryz.func110,Tryz.ntmps110
 go_upto_region 1 with fail
 generalize w.alloc (.cells xs 71)=wA at *
 clear hxs hJ
 have hP:=fun yes=>any_mark (a:=a) (b:=b) (c:=c) (s:=s) (t:=t) h0 hp yes
 go_wp2_with (go_at_call 189;refine (hP _).mono ?_;rintro e w1 ⟨c1,S1,rfl,hR,hN⟩)
 go_ret
 exact ⟨c1,S1,rfl,hR,hN.before b0⟩
theorem rare_27 (h:KN w m H S q A) (_hk:H.ok=true) (_hq:q≤90) (hp:(Lit.int .i64 p).wf=true) (_ha:(Lit.int .i64 a).wf=true) (_hb:b≤9223372036854775807) (_hs:s.length<100000) (_ht:t.length<100000) :
 Calls Tryz.prog 110 #[wp H.kb,.agg #[.int .i64 27,.int .i64 p,.int .i64 a,.int .i64 b,.int .i64 c,tx s,tx t]] w (CallO w m H S q A p a b c s t 27):=by
 obtain ⟨J,hJ⟩:∃J,w.heap.size=J:=⟨_,rfl⟩
 obtain ⟨xs,hxs⟩:∃xs:Array Value,#[.int .i64 27,.int .i64 p,.int .i64 a,.int .i64 b,.int .i64 c,tx s,tx t]=xs:=⟨_,rfl⟩
 have b0:Below w.heap.size w (w.alloc (.cells xs 71)):=(Below.refl _ _).alloc (Nat.le_refl _) _
 have h0:=h.below b0
 obtain ⟨z0,z1,z2,z3,z4,z5,z6⟩:=cc_cells w (.int .i64 27) (.int .i64 p) (.int .i64 a) (.int .i64 b) (.int .i64 c) (tx s) (tx t) 71
 rw [hxs,hJ] at z0 z1 z2 z3 z4 z5 z6
 go_enter Tryz.func110,Tryz.ntmps110
 go_upto_region 1 with fail
 generalize w.alloc (.cells xs 71)=wA at *
 clear hxs hJ
 have hP:=any_adjust (a:=a) (b:=b) (c:=c) (s:=s) (t:=t) h0 hp
 go_wp2_with (go_at_call 94;refine hP.mono ?_;rintro e w1 ⟨c1,S1,rfl,hR,hN⟩)
 go_ret
 exact ⟨c1,S1,rfl,hR,hN.before b0⟩
theorem rare_none (v:Int) (hv:¬(0≤v∧v≤27)) (h:KN w m H S q A) (_hk:H.ok=true) (_hq:q≤90) (_hp:(Lit.int .i64 p).wf=true) (_ha:(Lit.int .i64 a).wf=true) (_hb:b≤9223372036854775807) (_hs:s.length<100000) (_ht:t.length<100000) :
 Calls Tryz.prog 110 #[wp H.kb,.agg #[.int .i64 v,.int .i64 p,.int .i64 a,.int .i64 b,.int .i64 c,tx s,tx t]] w (CallO w m H S q A p a b c s t v):=by
 obtain ⟨J,hJ⟩:∃J,w.heap.size=J:=⟨_,rfl⟩
 obtain ⟨xs,hxs⟩:∃xs:Array Value,#[.int .i64 v,.int .i64 p,.int .i64 a,.int .i64 b,.int .i64 c,tx s,tx t]=xs:=⟨_,rfl⟩
 have b0:Below w.heap.size w (w.alloc (.cells xs 71)):=(Below.refl _ _).alloc (Nat.le_refl _) _
 have h0:=h.below b0
 obtain ⟨z0,z1,z2,z3,z4,z5,z6⟩:=cc_cells w (.int .i64 v) (.int .i64 p) (.int .i64 a) (.int .i64 b) (.int .i64 c) (tx s) (tx t) 71
 rw [hxs,hJ] at z0 z1 z2 z3 z4 z5 z6
 have e19:(v == 19)=false:=by simp;omega
 have e20:(v == 20)=false:=by simp;omega
 have e21:(v == 21)=false:=by simp;omega
 have e22:(v == 22)=false:=by simp;omega
 have e23:(v == 23)=false:=by simp;omega
 have e24:(v == 24)=false:=by simp;omega
 have e25:(v == 25)=false:=by simp;omega
 have e26:(v == 26)=false:=by simp;omega
 have e27:(v == 27)=false:=by simp;omega
 have hR:=CallK.other (S:=S) (p:=p) (a:=a) (b:=b) (c:=c) (s:=s) (t:=t) hv
 clear hv
 go_enter Tryz.func110,Tryz.ntmps110
 go_upto_region 1 with fail
 generalize w.alloc (.cells xs 71)=wA at *
 clear hxs hJ
 go_wp2_with fail
 go_ret
 exact ⟨0,S,rfl,hR,(Nxt.same h0 (Below.refl _ _)).before b0⟩
theorem rare_any (v:Int) (hv:¬(0≤v∧v≤18)) (h:KN w m H S q A) (hk:H.ok=true) (hq:q≤90) (hp:(Lit.int .i64 p).wf=true) (ha:(Lit.int .i64 a).wf=true) (hb:b≤9223372036854775807) (hs:s.length<100000) (ht:t.length<100000) :
 Calls Tryz.prog 110 #[wp H.kb,.agg #[.int .i64 v,.int .i64 p,.int .i64 a,.int .i64 b,.int .i64 c,tx s,tx t]] w (CallO w m H S q A p a b c s t v):=by
 by_cases h9:¬(0≤v∧v≤27)
 ·exact rare_none v h9 h hk hq hp ha hb hs ht
 ·have hc:v=19∨v=20∨v=21∨v=22∨v=23∨v=24∨v=25∨v=26∨v=27:=by omega
  rcases hc with rfl|rfl|rfl|rfl|rfl|rfl|rfl|rfl|rfl
  ·exact rare_19 h hk hq hp ha hb hs ht
  ·exact rare_20 h hk hq hp ha hb hs ht
  ·exact rare_21 h hk hq hp ha hb hs ht
  ·exact rare_22 h hk hq hp ha hb hs ht
  ·exact rare_23 h hk hq hp ha hb hs ht
  ·exact rare_24 h hk hq hp ha hb hs ht
  ·exact rare_25 h hk hq hp ha hb hs ht
  ·exact rare_26 h hk hq hp ha hb hs ht
  ·exact rare_27 h hk hq hp ha hb hs ht
end
end Go.Proofs.YtcfhanoekniaaaaGreatDoor
namespace Go.Proofs.YtcfhanoekniaaaaGreatDoor
open Go.RowKit Go.Maps
section
variable {w w':World}{m:Int}{H:KH}{S:KS}{q:Nat}{A:Nat→Prop}{p a b c:Int}{s t:List UInt8}
theorem call_0 (h:KN w m H S q A) (_hk:H.ok=true) (hq:q≤90) (hp:(Lit.int .i64 p).wf=true) (_ha:(Lit.int .i64 a).wf=true) (_hb:b≤9223372036854775807) (_hs:s.length<100000) (_ht:t.length<100000) :
 Calls Tryz.prog 33 #[wp H.kb,.agg #[.int .i64 0,.int .i64 p,.int .i64 a,.int .i64 b,.int .i64 c,tx s,tx t]] w (CallO w m H S q A p a b c s t 0):=by
 obtain ⟨J,hJ⟩:∃J,w.heap.size=J:=⟨_,rfl⟩
 obtain ⟨xs,hxs⟩:∃xs:Array Value,#[.int .i64 0,.int .i64 p,.int .i64 a,.int .i64 b,.int .i64 c,tx s,tx t]=xs:=⟨_,rfl⟩
 have b0:Below w.heap.size w (w.alloc (.cells xs 71)):=(Below.refl _ _).alloc (Nat.le_refl _) _
 have h0:=h.below b0
 obtain ⟨z0,z1,z2,z3,z4,z5,z6⟩:=cc_cells w (.int .i64 0) (.int .i64 p) (.int .i64 a) (.int .i64 b) (.int .i64 c) (tx s) (tx t) 71
 rw [hxs,hJ] at z0 z1 z2 z3 z4 z5 z6
 go_enter Tryz.func33,Tryz.ntmps33
 go_upto_region 1 with fail
 generalize w.alloc (.cells xs 71)=wA at *
 clear hxs hJ
 have hP:=any_fork (a:=a) (b:=b) (c:=c) (s:=s) (t:=t) h0 hq hp (W:=0) (by omega)
 go_wp2_with (go_at_call 14;refine hP.mono ?_;rintro e w1 ⟨n1,c1,S1,rfl,hR,hN⟩)
 go_ret
 exact ⟨c1,S1,rfl,hR,hN.before b0⟩
theorem call_1 (h:KN w m H S q A) (_hk:H.ok=true) (hq:q≤90) (hp:(Lit.int .i64 p).wf=true) (_ha:(Lit.int .i64 a).wf=true) (_hb:b≤9223372036854775807) (_hs:s.length<100000) (_ht:t.length<100000) :
 Calls Tryz.prog 33 #[wp H.kb,.agg #[.int .i64 1,.int .i64 p,.int .i64 a,.int .i64 b,.int .i64 c,tx s,tx t]] w (CallO w m H S q A p a b c s t 1):=by
 obtain ⟨J,hJ⟩:∃J,w.heap.size=J:=⟨_,rfl⟩
 obtain ⟨xs,hxs⟩:∃xs:Array Value,#[.int .i64 1,.int .i64 p,.int .i64 a,.int .i64 b,.int .i64 c,tx s,tx t]=xs:=⟨_,rfl⟩
 have b0:Below w.heap.size w (w.alloc (.cells xs 71)):=(Below.refl _ _).alloc (Nat.le_refl _) _
 have h0:=h.below b0
 obtain ⟨z0,z1,z2,z3,z4,z5,z6⟩:=cc_cells w (.int .i64 1) (.int .i64 p) (.int .i64 a) (.int .i64 b) (.int .i64 c) (tx s) (tx t) 71
 rw [hxs,hJ] at z0 z1 z2 z3 z4 z5 z6
 go_enter Tryz.func33,Tryz.ntmps33
 go_upto_region 1 with fail
 generalize w.alloc (.cells xs 71)=wA at *
 clear hxs hJ
 have hP:=any_fork (a:=a) (b:=b) (c:=c) (s:=s) (t:=t) h0 hq hp (W:=1) (by omega)
 go_wp2_with (go_at_call 14;refine hP.mono ?_;rintro e w1 ⟨n1,c1,S1,rfl,hR,hN⟩)
 go_ret
 exact ⟨c1,S1,rfl,hR,hN.before b0⟩
theorem call_2 (h:KN w m H S q A) (_hk:H.ok=true) (hq:q≤90) (hp:(Lit.int .i64 p).wf=true) (_ha:(Lit.int .i64 a).wf=true) (_hb:b≤9223372036854775807) (_hs:s.length<100000) (_ht:t.length<100000) :
 Calls Tryz.prog 33 #[wp H.kb,.agg #[.int .i64 2,.int .i64 p,.int .i64 a,.int .i64 b,.int .i64 c,tx s,tx t]] w (CallO w m H S q A p a b c s t 2):=by
 obtain ⟨J,hJ⟩:∃J,w.heap.size=J:=⟨_,rfl⟩
 obtain ⟨xs,hxs⟩:∃xs:Array Value,#[.int .i64 2,.int .i64 p,.int .i64 a,.int .i64 b,.int .i64 c,tx s,tx t]=xs:=⟨_,rfl⟩
 have b0:Below w.heap.size w (w.alloc (.cells xs 71)):=(Below.refl _ _).alloc (Nat.le_refl _) _
 have h0:=h.below b0
 obtain ⟨z0,z1,z2,z3,z4,z5,z6⟩:=cc_cells w (.int .i64 2) (.int .i64 p) (.int .i64 a) (.int .i64 b) (.int .i64 c) (tx s) (tx t) 71
 rw [hxs,hJ] at z0 z1 z2 z3 z4 z5 z6
 go_enter Tryz.func33,Tryz.ntmps33
 go_upto_region 1 with fail
 generalize w.alloc (.cells xs 71)=wA at *
 clear hxs hJ
 have hP:=any_exit (a:=a) (b:=b) (c:=c) (s:=s) (t:=t) h0 hq hp
 go_wp2_with (go_at_call 20;refine hP.mono ?_;rintro e w1 ⟨c1,S1,rfl,hR,hN⟩)
 go_ret
 exact ⟨c1,S1,rfl,hR,hN.before b0⟩
theorem call_3 (h:KN w m H S q A) (_hk:H.ok=true) (hq:q≤90) (hp:(Lit.int .i64 p).wf=true) (_ha:(Lit.int .i64 a).wf=true) (_hb:b≤9223372036854775807) (_hs:s.length<100000) (_ht:t.length<100000) :
 Calls Tryz.prog 33 #[wp H.kb,.agg #[.int .i64 3,.int .i64 p,.int .i64 a,.int .i64 b,.int .i64 c,tx s,tx t]] w (CallO w m H S q A p a b c s t 3):=by
 obtain ⟨J,hJ⟩:∃J,w.heap.size=J:=⟨_,rfl⟩
 obtain ⟨xs,hxs⟩:∃xs:Array Value,#[.int .i64 3,.int .i64 p,.int .i64 a,.int .i64 b,.int .i64 c,tx s,tx t]=xs:=⟨_,rfl⟩
 have b0:Below w.heap.size w (w.alloc (.cells xs 71)):=(Below.refl _ _).alloc (Nat.le_refl _) _
 have h0:=h.below b0
 obtain ⟨z0,z1,z2,z3,z4,z5,z6⟩:=cc_cells w (.int .i64 3) (.int .i64 p) (.int .i64 a) (.int .i64 b) (.int .i64 c) (tx s) (tx t) 71
 rw [hxs,hJ] at z0 z1 z2 z3 z4 z5 z6
 go_enter Tryz.func33,Tryz.ntmps33
 go_upto_region 1 with fail
 generalize w.alloc (.cells xs 71)=wA at *
 clear hxs hJ
 have hP:=any_exec (a:=a) (b:=b) (c:=c) (s:=s) (t:=t) h0 hq hp
 go_wp2_with (go_at_call 37;refine hP.mono ?_;rintro e w1 ⟨c1,S1,rfl,hR,hN⟩)
 go_ret
 exact ⟨c1,S1,rfl,hR,hN.before b0⟩
theorem call_4 (h:KN w m H S q A) (_hk:H.ok=true) (_hq:q≤90) (hp:(Lit.int .i64 p).wf=true) (_ha:(Lit.int .i64 a).wf=true) (_hb:b≤9223372036854775807) (_hs:s.length<100000) (_ht:t.length<100000) :
 Calls Tryz.prog 33 #[wp H.kb,.agg #[.int .i64 4,.int .i64 p,.int .i64 a,.int .i64 b,.int .i64 c,tx s,tx t]] w (CallO w m H S q A p a b c s t 4):=by
 obtain ⟨J,hJ⟩:∃J,w.heap.size=J:=⟨_,rfl⟩
 obtain ⟨xs,hxs⟩:∃xs:Array Value,#[.int .i64 4,.int .i64 p,.int .i64 a,.int .i64 b,.int .i64 c,tx s,tx t]=xs:=⟨_,rfl⟩
 have b0:Below w.heap.size w (w.alloc (.cells xs 71)):=(Below.refl _ _).alloc (Nat.le_refl _) _
 have h0:=h.below b0
 obtain ⟨z0,z1,z2,z3,z4,z5,z6⟩:=cc_cells w (.int .i64 4) (.int .i64 p) (.int .i64 a) (.int .i64 b) (.int .i64 c) (tx s) (tx t) 71
 rw [hxs,hJ] at z0 z1 z2 z3 z4 z5 z6
 go_enter Tryz.func33,Tryz.ntmps33
 go_upto_region 1 with fail
 generalize w.alloc (.cells xs 71)=wA at *
 clear hxs hJ
 have hP:=any_wait (a:=a) (b:=b) (c:=c) (s:=s) (t:=t) h0 hp
 go_wp2_with (go_at_call 36;refine hP.mono ?_;rintro e w1 ⟨n1,n2,c1,S1,rfl,hR,hN⟩)
 go_ret
 exact ⟨c1,S1,rfl,hR,hN.before b0⟩
theorem call_5 (h:KN w m H S q A) (_hk:H.ok=true) (_hq:q≤90) (hp:(Lit.int .i64 p).wf=true) (_ha:(Lit.int .i64 a).wf=true) (hb:b≤9223372036854775807) (_hs:s.length<100000) (_ht:t.length<100000) :
 Calls Tryz.prog 33 #[wp H.kb,.agg #[.int .i64 5,.int .i64 p,.int .i64 a,.int .i64 b,.int .i64 c,tx s,tx t]] w (CallO w m H S q A p a b c s t 5):=by
 obtain ⟨J,hJ⟩:∃J,w.heap.size=J:=⟨_,rfl⟩
 obtain ⟨xs,hxs⟩:∃xs:Array Value,#[.int .i64 5,.int .i64 p,.int .i64 a,.int .i64 b,.int .i64 c,tx s,tx t]=xs:=⟨_,rfl⟩
 have b0:Below w.heap.size w (w.alloc (.cells xs 71)):=(Below.refl _ _).alloc (Nat.le_refl _) _
 have h0:=h.below b0
 obtain ⟨z0,z1,z2,z3,z4,z5,z6⟩:=cc_cells w (.int .i64 5) (.int .i64 p) (.int .i64 a) (.int .i64 b) (.int .i64 c) (tx s) (tx t) 71
 rw [hxs,hJ] at z0 z1 z2 z3 z4 z5 z6
 go_enter Tryz.func33,Tryz.ntmps33
 go_upto_region 1 with fail
 generalize w.alloc (.cells xs 71)=wA at *
 clear hxs hJ
 have hP:=any_map (a:=a) (b:=b) (c:=c) (s:=s) (t:=t) h0 hp hb (W:=5) (by omega)
 go_wp2_with (go_at_call 45;refine hP.mono ?_;rintro e w1 ⟨c1,S1,rfl,hR,hN⟩)
 go_ret
 exact ⟨c1,S1,rfl,hR,hN.before b0⟩
theorem call_6 (h:KN w m H S q A) (_hk:H.ok=true) (_hq:q≤90) (hp:(Lit.int .i64 p).wf=true) (_ha:(Lit.int .i64 a).wf=true) (hb:b≤9223372036854775807) (_hs:s.length<100000) (_ht:t.length<100000) :
 Calls Tryz.prog 33 #[wp H.kb,.agg #[.int .i64 6,.int .i64 p,.int .i64 a,.int .i64 b,.int .i64 c,tx s,tx t]] w (CallO w m H S q A p a b c s t 6):=by
 obtain ⟨J,hJ⟩:∃J,w.heap.size=J:=⟨_,rfl⟩
 obtain ⟨xs,hxs⟩:∃xs:Array Value,#[.int .i64 6,.int .i64 p,.int .i64 a,.int .i64 b,.int .i64 c,tx s,tx t]=xs:=⟨_,rfl⟩
 have b0:Below w.heap.size w (w.alloc (.cells xs 71)):=(Below.refl _ _).alloc (Nat.le_refl _) _
 have h0:=h.below b0
 obtain ⟨z0,z1,z2,z3,z4,z5,z6⟩:=cc_cells w (.int .i64 6) (.int .i64 p) (.int .i64 a) (.int .i64 b) (.int .i64 c) (tx s) (tx t) 71
 rw [hxs,hJ] at z0 z1 z2 z3 z4 z5 z6
 go_enter Tryz.func33,Tryz.ntmps33
 go_upto_region 1 with fail
 generalize w.alloc (.cells xs 71)=wA at *
 clear hxs hJ
 have hP:=any_map (a:=a) (b:=b) (c:=c) (s:=s) (t:=t) h0 hp hb (W:=6) (by omega)
 go_wp2_with (go_at_call 45;refine hP.mono ?_;rintro e w1 ⟨c1,S1,rfl,hR,hN⟩)
 go_ret
 exact ⟨c1,S1,rfl,hR,hN.before b0⟩
theorem call_7 (h:KN w m H S q A) (_hk:H.ok=true) (_hq:q≤90) (hp:(Lit.int .i64 p).wf=true) (_ha:(Lit.int .i64 a).wf=true) (hb:b≤9223372036854775807) (_hs:s.length<100000) (_ht:t.length<100000) :
 Calls Tryz.prog 33 #[wp H.kb,.agg #[.int .i64 7,.int .i64 p,.int .i64 a,.int .i64 b,.int .i64 c,tx s,tx t]] w (CallO w m H S q A p a b c s t 7):=by
 obtain ⟨J,hJ⟩:∃J,w.heap.size=J:=⟨_,rfl⟩
 obtain ⟨xs,hxs⟩:∃xs:Array Value,#[.int .i64 7,.int .i64 p,.int .i64 a,.int .i64 b,.int .i64 c,tx s,tx t]=xs:=⟨_,rfl⟩
 have b0:Below w.heap.size w (w.alloc (.cells xs 71)):=(Below.refl _ _).alloc (Nat.le_refl _) _
 have h0:=h.below b0
 obtain ⟨z0,z1,z2,z3,z4,z5,z6⟩:=cc_cells w (.int .i64 7) (.int .i64 p) (.int .i64 a) (.int .i64 b) (.int .i64 c) (tx s) (tx t) 71
 rw [hxs,hJ] at z0 z1 z2 z3 z4 z5 z6
 go_enter Tryz.func33,Tryz.ntmps33
 go_upto_region 1 with fail
 generalize w.alloc (.cells xs 71)=wA at *
 clear hxs hJ
 have hP:=any_unmap (a:=a) (b:=b) (c:=c) (s:=s) (t:=t) h0 hp hb
 go_wp2_with (go_at_call 95;refine hP.mono ?_;rintro e w1 ⟨c1,S1,rfl,hR,hN⟩)
 go_ret
 exact ⟨c1,S1,rfl,hR,hN.before b0⟩
theorem call_8 (h:KN w m H S q A) (_hk:H.ok=true) (hq:q≤90) (hp:(Lit.int .i64 p).wf=true) (ha:(Lit.int .i64 a).wf=true) (_hb:b≤9223372036854775807) (_hs:s.length<100000) (_ht:t.length<100000) :
 Calls Tryz.prog 33 #[wp H.kb,.agg #[.int .i64 8,.int .i64 p,.int .i64 a,.int .i64 b,.int .i64 c,tx s,tx t]] w (CallO w m H S q A p a b c s t 8):=by
 obtain ⟨J,hJ⟩:∃J,w.heap.size=J:=⟨_,rfl⟩
 obtain ⟨xs,hxs⟩:∃xs:Array Value,#[.int .i64 8,.int .i64 p,.int .i64 a,.int .i64 b,.int .i64 c,tx s,tx t]=xs:=⟨_,rfl⟩
 have b0:Below w.heap.size w (w.alloc (.cells xs 71)):=(Below.refl _ _).alloc (Nat.le_refl _) _
 have h0:=h.below b0
 obtain ⟨z0,z1,z2,z3,z4,z5,z6⟩:=cc_cells w (.int .i64 8) (.int .i64 p) (.int .i64 a) (.int .i64 b) (.int .i64 c) (tx s) (tx t) 71
 rw [hxs,hJ] at z0 z1 z2 z3 z4 z5 z6
 go_enter Tryz.func33,Tryz.ntmps33
 go_upto_region 1 with fail
 generalize w.alloc (.cells xs 71)=wA at *
 clear hxs hJ
 have hP:=any_store (a:=a) (b:=b) (c:=c) (s:=s) (t:=t) h0 hq hp ha (W:=8) (by omega)
 go_wp2_with (go_at_call 42;refine hP.mono ?_;rintro e w1 ⟨n1,c1,S1,rfl,hR,hN⟩)
 go_ret
 exact ⟨c1,S1,rfl,hR,hN.before b0⟩
theorem call_9 (h:KN w m H S q A) (_hk:H.ok=true) (hq:q≤90) (hp:(Lit.int .i64 p).wf=true) (ha:(Lit.int .i64 a).wf=true) (_hb:b≤9223372036854775807) (_hs:s.length<100000) (_ht:t.length<100000) :
 Calls Tryz.prog 33 #[wp H.kb,.agg #[.int .i64 9,.int .i64 p,.int .i64 a,.int .i64 b,.int .i64 c,tx s,tx t]] w (CallO w m H S q A p a b c s t 9):=by
 obtain ⟨J,hJ⟩:∃J,w.heap.size=J:=⟨_,rfl⟩
 obtain ⟨xs,hxs⟩:∃xs:Array Value,#[.int .i64 9,.int .i64 p,.int .i64 a,.int .i64 b,.int .i64 c,tx s,tx t]=xs:=⟨_,rfl⟩
 have b0:Below w.heap.size w (w.alloc (.cells xs 71)):=(Below.refl _ _).alloc (Nat.le_refl _) _
 have h0:=h.below b0
 obtain ⟨z0,z1,z2,z3,z4,z5,z6⟩:=cc_cells w (.int .i64 9) (.int .i64 p) (.int .i64 a) (.int .i64 b) (.int .i64 c) (tx s) (tx t) 71
 rw [hxs,hJ] at z0 z1 z2 z3 z4 z5 z6
 go_enter Tryz.func33,Tryz.ntmps33
 go_upto_region 1 with fail
 generalize w.alloc (.cells xs 71)=wA at *
 clear hxs hJ
 have hP:=any_store (a:=a) (b:=b) (c:=c) (s:=s) (t:=t) h0 hq hp ha (W:=9) (by omega)
 go_wp2_with (go_at_call 42;refine hP.mono ?_;rintro e w1 ⟨n1,c1,S1,rfl,hR,hN⟩)
 go_ret
 exact ⟨c1,S1,rfl,hR,hN.before b0⟩
theorem call_10 (h:KN w m H S q A) (_hk:H.ok=true) (hq:q≤90) (hp:(Lit.int .i64 p).wf=true) (ha:(Lit.int .i64 a).wf=true) (_hb:b≤9223372036854775807) (_hs:s.length<100000) (_ht:t.length<100000) :
 Calls Tryz.prog 33 #[wp H.kb,.agg #[.int .i64 10,.int .i64 p,.int .i64 a,.int .i64 b,.int .i64 c,tx s,tx t]] w (CallO w m H S q A p a b c s t 10):=by
 obtain ⟨J,hJ⟩:∃J,w.heap.size=J:=⟨_,rfl⟩
 obtain ⟨xs,hxs⟩:∃xs:Array Value,#[.int .i64 10,.int .i64 p,.int .i64 a,.int .i64 b,.int .i64 c,tx s,tx t]=xs:=⟨_,rfl⟩
 have b0:Below w.heap.size w (w.alloc (.cells xs 71)):=(Below.refl _ _).alloc (Nat.le_refl _) _
 have h0:=h.below b0
 obtain ⟨z0,z1,z2,z3,z4,z5,z6⟩:=cc_cells w (.int .i64 10) (.int .i64 p) (.int .i64 a) (.int .i64 b) (.int .i64 c) (tx s) (tx t) 71
 rw [hxs,hJ] at z0 z1 z2 z3 z4 z5 z6
 go_enter Tryz.func33,Tryz.ntmps33
 go_upto_region 1 with fail
 generalize w.alloc (.cells xs 71)=wA at *
 clear hxs hJ
 have hP:=any_store (a:=a) (b:=b) (c:=c) (s:=s) (t:=t) h0 hq hp ha (W:=10) (by omega)
 go_wp2_with (go_at_call 42;refine hP.mono ?_;rintro e w1 ⟨n1,c1,S1,rfl,hR,hN⟩)
 go_ret
 exact ⟨c1,S1,rfl,hR,hN.before b0⟩
theorem call_11 (h:KN w m H S q A) (_hk:H.ok=true) (hq:q≤90) (hp:(Lit.int .i64 p).wf=true) (_ha:(Lit.int .i64 a).wf=true) (_hb:b≤9223372036854775807) (hs:s.length<100000) (_ht:t.length<100000) :
 Calls Tryz.prog 33 #[wp H.kb,.agg #[.int .i64 11,.int .i64 p,.int .i64 a,.int .i64 b,.int .i64 c,tx s,tx t]] w (CallO w m H S q A p a b c s t 11):=by
 obtain ⟨J,hJ⟩:∃J,w.heap.size=J:=⟨_,rfl⟩
 obtain ⟨xs,hxs⟩:∃xs:Array Value,#[.int .i64 11,.int .i64 p,.int .i64 a,.int .i64 b,.int .i64 c,tx s,tx t]=xs:=⟨_,rfl⟩
 have b0:Below w.heap.size w (w.alloc (.cells xs 71)):=(Below.refl _ _).alloc (Nat.le_refl _) _
 have h0:=h.below b0
 obtain ⟨z0,z1,z2,z3,z4,z5,z6⟩:=cc_cells w (.int .i64 11) (.int .i64 p) (.int .i64 a) (.int .i64 b) (.int .i64 c) (tx s) (tx t) 71
 rw [hxs,hJ] at z0 z1 z2 z3 z4 z5 z6
 have hJA:¬A J:=fun z=>by have:=h.1.lt _ z;omega
 go_enter Tryz.func33,Tryz.ntmps33
 go_upto_region 1 with fail
 generalize w.alloc (.cells xs 71)=wA at *
 clear hxs hJ
 have hPk:=fun W=>ppick_any W a 3 (by omega) (by omega)
 have hP:=fun W (n0:KN W m H S q A) (pr:Int)=>any_file (a:=a) (b:=b) (c:=c) (s:=s) (t:=t) n0 hq hp hs (W:=11) (by omega) pr
 go_upto_region 24 with fail
 go_region_held3 (fun w'=>w'.cell? ⟨J,1,none⟩=some (.int .i64 p)∧w'.cell? ⟨J,2,none⟩=some (.int .i64 a)∧w'.cell? ⟨J,5,none⟩=some (tx s)) (first|exact ⟨y1,y2,y5⟩|exact ⟨z1,z2,z5⟩) (first
  |(go_at_call 18;refine (hPk _).mono ?_;rintro e w2 ⟨r,rfl,hr,hw2⟩;subst w2)
  |(go_at_call 107;refine (hP _ ?_ _).mono ?_;(first|exact h0|exact h0.below ⟨rfl,rfl,rfl,Nat.le_refl _,fun _ _=>rfl⟩);rintro e w1 ⟨n1,c1,S1,rfl,hR,hN⟩;have y1:=hN.cell hJA z1;have y2:=hN.cell hJA z2;have y5:=hN.cell hJA z5))
 all_goals
  clear hP hPk
  go_wp2_with fail
  go_ret
  exact ⟨c1,S1,rfl,hR,(Nxt.asw (w:=wA) hN rfl rfl rfl rfl).before b0⟩
theorem call_12 (h:KN w m H S q A) (_hk:H.ok=true) (hq:q≤90) (hp:(Lit.int .i64 p).wf=true) (_ha:(Lit.int .i64 a).wf=true) (_hb:b≤9223372036854775807) (hs:s.length<100000) (_ht:t.length<100000) :
 Calls Tryz.prog 33 #[wp H.kb,.agg #[.int .i64 12,.int .i64 p,.int .i64 a,.int .i64 b,.int .i64 c,tx s,tx t]] w (CallO w m H S q A p a b c s t 12):=by
 obtain ⟨J,hJ⟩:∃J,w.heap.size=J:=⟨_,rfl⟩
 obtain ⟨xs,hxs⟩:∃xs:Array Value,#[.int .i64 12,.int .i64 p,.int .i64 a,.int .i64 b,.int .i64 c,tx s,tx t]=xs:=⟨_,rfl⟩
 have b0:Below w.heap.size w (w.alloc (.cells xs 71)):=(Below.refl _ _).alloc (Nat.le_refl _) _
 have h0:=h.below b0
 obtain ⟨z0,z1,z2,z3,z4,z5,z6⟩:=cc_cells w (.int .i64 12) (.int .i64 p) (.int .i64 a) (.int .i64 b) (.int .i64 c) (tx s) (tx t) 71
 rw [hxs,hJ] at z0 z1 z2 z3 z4 z5 z6
 have hJA:¬A J:=fun z=>by have:=h.1.lt _ z;omega
 go_enter Tryz.func33,Tryz.ntmps33
 go_upto_region 1 with fail
 generalize w.alloc (.cells xs 71)=wA at *
 clear hxs hJ
 have hPk:=fun W=>ppick_any W a 3 (by omega) (by omega)
 have hP:=fun W (n0:KN W m H S q A) (pr:Int)=>any_file (a:=a) (b:=b) (c:=c) (s:=s) (t:=t) n0 hq hp hs (W:=12) (by omega) pr
 go_upto_region 24 with fail
 go_region_held3 (fun w'=>w'.cell? ⟨J,1,none⟩=some (.int .i64 p)∧w'.cell? ⟨J,2,none⟩=some (.int .i64 a)∧w'.cell? ⟨J,5,none⟩=some (tx s)) (first|exact ⟨y1,y2,y5⟩|exact ⟨z1,z2,z5⟩) (first
  |(go_at_call 18;refine (hPk _).mono ?_;rintro e w2 ⟨r,rfl,hr,hw2⟩;subst w2)
  |(go_at_call 107;refine (hP _ ?_ _).mono ?_;(first|exact h0|exact h0.below ⟨rfl,rfl,rfl,Nat.le_refl _,fun _ _=>rfl⟩);rintro e w1 ⟨n1,c1,S1,rfl,hR,hN⟩;have y1:=hN.cell hJA z1;have y2:=hN.cell hJA z2;have y5:=hN.cell hJA z5))
 all_goals
  clear hP hPk
  go_wp2_with fail
  go_ret
  exact ⟨c1,S1,rfl,hR,(Nxt.asw (w:=wA) hN rfl rfl rfl rfl).before b0⟩
theorem call_13 (h:KN w m H S q A) (_hk:H.ok=true) (hq:q≤90) (hp:(Lit.int .i64 p).wf=true) (_ha:(Lit.int .i64 a).wf=true) (_hb:b≤9223372036854775807) (_hs:s.length<100000) (_ht:t.length<100000) :
 Calls Tryz.prog 33 #[wp H.kb,.agg #[.int .i64 13,.int .i64 p,.int .i64 a,.int .i64 b,.int .i64 c,tx s,tx t]] w (CallO w m H S q A p a b c s t 13):=by
 obtain ⟨J,hJ⟩:∃J,w.heap.size=J:=⟨_,rfl⟩
 obtain ⟨xs,hxs⟩:∃xs:Array Value,#[.int .i64 13,.int .i64 p,.int .i64 a,.int .i64 b,.int .i64 c,tx s,tx t]=xs:=⟨_,rfl⟩
 have b0:Below w.heap.size w (w.alloc (.cells xs 71)):=(Below.refl _ _).alloc (Nat.le_refl _) _
 have h0:=h.below b0
 obtain ⟨z0,z1,z2,z3,z4,z5,z6⟩:=cc_cells w (.int .i64 13) (.int .i64 p) (.int .i64 a) (.int .i64 b) (.int .i64 c) (tx s) (tx t) 71
 rw [hxs,hJ] at z0 z1 z2 z3 z4 z5 z6
 go_enter Tryz.func33,Tryz.ntmps33
 go_upto_region 1 with fail
 generalize w.alloc (.cells xs 71)=wA at *
 clear hxs hJ
 have hP:=any_pipe (a:=a) (b:=b) (c:=c) (s:=s) (t:=t) h0 hq hp
 go_wp2_with (go_at_call 13;refine hP.mono ?_;rintro e w1 ⟨n1,n2,c1,S1,rfl,hR,hN⟩)
 go_ret
 exact ⟨c1,S1,rfl,hR,hN.before b0⟩
theorem call_14 (h:KN w m H S q A) (_hk:H.ok=true) (_hq:q≤90) (hp:(Lit.int .i64 p).wf=true) (_ha:(Lit.int .i64 a).wf=true) (_hb:b≤9223372036854775807) (_hs:s.length<100000) (_ht:t.length<100000) :
 Calls Tryz.prog 33 #[wp H.kb,.agg #[.int .i64 14,.int .i64 p,.int .i64 a,.int .i64 b,.int .i64 c,tx s,tx t]] w (CallO w m H S q A p a b c s t 14):=by
 obtain ⟨J,hJ⟩:∃J,w.heap.size=J:=⟨_,rfl⟩
 obtain ⟨xs,hxs⟩:∃xs:Array Value,#[.int .i64 14,.int .i64 p,.int .i64 a,.int .i64 b,.int .i64 c,tx s,tx t]=xs:=⟨_,rfl⟩
 have b0:Below w.heap.size w (w.alloc (.cells xs 71)):=(Below.refl _ _).alloc (Nat.le_refl _) _
 have h0:=h.below b0
 obtain ⟨z0,z1,z2,z3,z4,z5,z6⟩:=cc_cells w (.int .i64 14) (.int .i64 p) (.int .i64 a) (.int .i64 b) (.int .i64 c) (tx s) (tx t) 71
 rw [hxs,hJ] at z0 z1 z2 z3 z4 z5 z6
 go_enter Tryz.func33,Tryz.ntmps33
 go_upto_region 1 with fail
 generalize w.alloc (.cells xs 71)=wA at *
 clear hxs hJ
 have hP:=any_dup (a:=a) (b:=b) (c:=c) (s:=s) (t:=t) h0 hp
 go_wp2_with (go_at_call 108;refine hP.mono ?_;rintro e w1 ⟨n1,c1,S1,rfl,hR,hN⟩)
 go_ret
 exact ⟨c1,S1,rfl,hR,hN.before b0⟩
theorem call_15 (h:KN w m H S q A) (_hk:H.ok=true) (hq:q≤90) (hp:(Lit.int .i64 p).wf=true) (_ha:(Lit.int .i64 a).wf=true) (_hb:b≤9223372036854775807) (_hs:s.length<100000) (_ht:t.length<100000) :
 Calls Tryz.prog 33 #[wp H.kb,.agg #[.int .i64 15,.int .i64 p,.int .i64 a,.int .i64 b,.int .i64 c,tx s,tx t]] w (CallO w m H S q A p a b c s t 15):=by
 obtain ⟨J,hJ⟩:∃J,w.heap.size=J:=⟨_,rfl⟩
 obtain ⟨xs,hxs⟩:∃xs:Array Value,#[.int .i64 15,.int .i64 p,.int .i64 a,.int .i64 b,.int .i64 c,tx s,tx t]=xs:=⟨_,rfl⟩
 have b0:Below w.heap.size w (w.alloc (.cells xs 71)):=(Below.refl _ _).alloc (Nat.le_refl _) _
 have h0:=h.below b0
 obtain ⟨z0,z1,z2,z3,z4,z5,z6⟩:=cc_cells w (.int .i64 15) (.int .i64 p) (.int .i64 a) (.int .i64 b) (.int .i64 c) (tx s) (tx t) 71
 rw [hxs,hJ] at z0 z1 z2 z3 z4 z5 z6
 go_enter Tryz.func33,Tryz.ntmps33
 go_upto_region 1 with fail
 generalize w.alloc (.cells xs 71)=wA at *
 clear hxs hJ
 have hP:=any_dup2 (a:=a) (b:=b) (c:=c) (s:=s) (t:=t) h0 hq hp
 go_wp2_with (go_at_call 109;refine hP.mono ?_;rintro e w1 ⟨c1,S1,rfl,hR,hN⟩)
 go_ret
 exact ⟨c1,S1,rfl,hR,hN.before b0⟩
theorem call_16 (h:KN w m H S q A) (_hk:H.ok=true) (hq:q≤90) (hp:(Lit.int .i64 p).wf=true) (_ha:(Lit.int .i64 a).wf=true) (_hb:b≤9223372036854775807) (_hs:s.length<100000) (_ht:t.length<100000) :
 Calls Tryz.prog 33 #[wp H.kb,.agg #[.int .i64 16,.int .i64 p,.int .i64 a,.int .i64 b,.int .i64 c,tx s,tx t]] w (CallO w m H S q A p a b c s t 16):=by
 obtain ⟨J,hJ⟩:∃J,w.heap.size=J:=⟨_,rfl⟩
 obtain ⟨xs,hxs⟩:∃xs:Array Value,#[.int .i64 16,.int .i64 p,.int .i64 a,.int .i64 b,.int .i64 c,tx s,tx t]=xs:=⟨_,rfl⟩
 have b0:Below w.heap.size w (w.alloc (.cells xs 71)):=(Below.refl _ _).alloc (Nat.le_refl _) _
 have h0:=h.below b0
 obtain ⟨z0,z1,z2,z3,z4,z5,z6⟩:=cc_cells w (.int .i64 16) (.int .i64 p) (.int .i64 a) (.int .i64 b) (.int .i64 c) (tx s) (tx t) 71
 rw [hxs,hJ] at z0 z1 z2 z3 z4 z5 z6
 go_enter Tryz.func33,Tryz.ntmps33
 go_upto_region 1 with fail
 generalize w.alloc (.cells xs 71)=wA at *
 clear hxs hJ
 have hP:=any_close (a:=a) (b:=b) (c:=c) (s:=s) (t:=t) h0 hq hp
 go_wp2_with (go_at_call 15;refine hP.mono ?_;rintro e w1 ⟨c1,S1,rfl,hR,hN⟩)
 go_ret
 exact ⟨c1,S1,rfl,hR,hN.before b0⟩
theorem call_17 (h:KN w m H S q A) (_hk:H.ok=true) (_hq:q≤90) (hp:(Lit.int .i64 p).wf=true) (_ha:(Lit.int .i64 a).wf=true) (_hb:b≤9223372036854775807) (hs:s.length<100000) (_ht:t.length<100000) :
 Calls Tryz.prog 33 #[wp H.kb,.agg #[.int .i64 17,.int .i64 p,.int .i64 a,.int .i64 b,.int .i64 c,tx s,tx t]] w (CallO w m H S q A p a b c s t 17):=by
 obtain ⟨J,hJ⟩:∃J,w.heap.size=J:=⟨_,rfl⟩
 obtain ⟨xs,hxs⟩:∃xs:Array Value,#[.int .i64 17,.int .i64 p,.int .i64 a,.int .i64 b,.int .i64 c,tx s,tx t]=xs:=⟨_,rfl⟩
 have b0:Below w.heap.size w (w.alloc (.cells xs 71)):=(Below.refl _ _).alloc (Nat.le_refl _) _
 have h0:=h.below b0
 obtain ⟨z0,z1,z2,z3,z4,z5,z6⟩:=cc_cells w (.int .i64 17) (.int .i64 p) (.int .i64 a) (.int .i64 b) (.int .i64 c) (tx s) (tx t) 71
 rw [hxs,hJ] at z0 z1 z2 z3 z4 z5 z6
 go_enter Tryz.func33,Tryz.ntmps33
 go_upto_region 1 with fail
 generalize w.alloc (.cells xs 71)=wA at *
 clear hxs hJ
 have hP:=any_write (a:=a) (b:=b) (c:=c) (s:=s) (t:=t) h0 hp hs
 go_wp2_with (go_at_call 16;refine hP.mono ?_;rintro e w1 ⟨n1,c1,S1,rfl,hR,hN⟩)
 go_ret
 exact ⟨c1,S1,rfl,hR,hN.before b0⟩
theorem call_18 (h:KN w m H S q A) (_hk:H.ok=true) (_hq:q≤90) (hp:(Lit.int .i64 p).wf=true) (_ha:(Lit.int .i64 a).wf=true) (_hb:b≤9223372036854775807) (_hs:s.length<100000) (_ht:t.length<100000) :
 Calls Tryz.prog 33 #[wp H.kb,.agg #[.int .i64 18,.int .i64 p,.int .i64 a,.int .i64 b,.int .i64 c,tx s,tx t]] w (CallO w m H S q A p a b c s t 18):=by
 obtain ⟨J,hJ⟩:∃J,w.heap.size=J:=⟨_,rfl⟩
 obtain ⟨xs,hxs⟩:∃xs:Array Value,#[.int .i64 18,.int .i64 p,.int .i64 a,.int .i64 b,.int .i64 c,tx s,tx t]=xs:=⟨_,rfl⟩
 have b0:Below w.heap.size w (w.alloc (.cells xs 71)):=(Below.refl _ _).alloc (Nat.le_refl _) _
 have h0:=h.below b0
 obtain ⟨z0,z1,z2,z3,z4,z5,z6⟩:=cc_cells w (.int .i64 18) (.int .i64 p) (.int .i64 a) (.int .i64 b) (.int .i64 c) (tx s) (tx t) 71
 rw [hxs,hJ] at z0 z1 z2 z3 z4 z5 z6
 go_enter Tryz.func33,Tryz.ntmps33
 go_upto_region 1 with fail
 generalize w.alloc (.cells xs 71)=wA at *
 clear hxs hJ
 have hP:=any_read (a:=a) (b:=b) (c:=c) (s:=s) (t:=t) h0 hp
 go_wp2_with (go_at_call 19;refine hP.mono ?_;rintro e w1 ⟨n1,c1,S1,rfl,hR,hN⟩)
 go_ret
 exact ⟨c1,S1,rfl,hR,hN.before b0⟩
theorem call_rare (v:Int) (hv:¬(0≤v∧v≤18)) (h:KN w m H S q A) (hk:H.ok=true) (hq:q≤90) (hp:(Lit.int .i64 p).wf=true) (ha:(Lit.int .i64 a).wf=true) (hb:b≤9223372036854775807) (hs:s.length<100000) (ht:t.length<100000) :
 Calls Tryz.prog 33 #[wp H.kb,.agg #[.int .i64 v,.int .i64 p,.int .i64 a,.int .i64 b,.int .i64 c,tx s,tx t]] w (CallO w m H S q A p a b c s t v):=by
 obtain ⟨J,hJ⟩:∃J,w.heap.size=J:=⟨_,rfl⟩
 obtain ⟨xs,hxs⟩:∃xs:Array Value,#[.int .i64 v,.int .i64 p,.int .i64 a,.int .i64 b,.int .i64 c,tx s,tx t]=xs:=⟨_,rfl⟩
 have b0:Below w.heap.size w (w.alloc (.cells xs 71)):=(Below.refl _ _).alloc (Nat.le_refl _) _
 have h0:=h.below b0
 obtain ⟨z0,z1,z2,z3,z4,z5,z6⟩:=cc_cells w (.int .i64 v) (.int .i64 p) (.int .i64 a) (.int .i64 b) (.int .i64 c) (tx s) (tx t) 71
 rw [hxs,hJ] at z0 z1 z2 z3 z4 z5 z6
 have e0:(v == 0)=false:=by simp;omega
 have e1:(v == 1)=false:=by simp;omega
 have e2:(v == 2)=false:=by simp;omega
 have e3:(v == 3)=false:=by simp;omega
 have e4:(v == 4)=false:=by simp;omega
 have e5:(v == 5)=false:=by simp;omega
 have e6:(v == 6)=false:=by simp;omega
 have e7:(v == 7)=false:=by simp;omega
 have e8:(v == 8)=false:=by simp;omega
 have e9:(v == 9)=false:=by simp;omega
 have e10:(v == 10)=false:=by simp;omega
 have e11:(v == 11)=false:=by simp;omega
 have e12:(v == 12)=false:=by simp;omega
 have e13:(v == 13)=false:=by simp;omega
 have e14:(v == 14)=false:=by simp;omega
 have e15:(v == 15)=false:=by simp;omega
 have e16:(v == 16)=false:=by simp;omega
 have e17:(v == 17)=false:=by simp;omega
 have e18:(v == 18)=false:=by simp;omega
 have hP:=fun W (n0:KN W m H S q A)=>rare_any (c:=c) v hv n0 hk hq hp ha hb hs ht
 clear hv
 go_enter Tryz.func33,Tryz.ntmps33
 go_upto_region 1 with fail
 generalize w.alloc (.cells xs 71)=wA at *
 clear hxs hJ
 have hP0:=hP _ h0
 clear hP
 go_wp2_with (go_at_call 110;refine hP0.mono ?_;rintro e w1 ⟨c1,S1,rfl,hR,hN⟩)
 go_ret
 exact ⟨c1,S1,rfl,hR,hN.before b0⟩
theorem call_any (v:Int) (h:KN w m H S q A) (hk:H.ok=true) (hq:q≤90) (hp:(Lit.int .i64 p).wf=true) (ha:(Lit.int .i64 a).wf=true) (hb:b≤9223372036854775807) (hs:s.length<100000) (ht:t.length<100000) :
 Calls Tryz.prog 33 #[wp H.kb,.agg #[.int .i64 v,.int .i64 p,.int .i64 a,.int .i64 b,.int .i64 c,tx s,tx t]] w (CallO w m H S q A p a b c s t v):=by
 by_cases h9:¬(0≤v∧v≤18)
 ·exact call_rare v h9 h hk hq hp ha hb hs ht
 ·have hc:v=0∨v=1∨v=2∨v=3∨v=4∨v=5∨v=6∨v=7∨v=8∨v=9∨v=10∨v=11∨v=12∨v=13∨v=14∨v=15∨v=16∨v=17∨v=18:=by omega
  rcases hc with rfl|rfl|rfl|rfl|rfl|rfl|rfl|rfl|rfl|rfl|rfl|rfl|rfl|rfl|rfl|rfl|rfl|rfl|rfl
  ·exact call_0 h hk hq hp ha hb hs ht
  ·exact call_1 h hk hq hp ha hb hs ht
  ·exact call_2 h hk hq hp ha hb hs ht
  ·exact call_3 h hk hq hp ha hb hs ht
  ·exact call_4 h hk hq hp ha hb hs ht
  ·exact call_5 h hk hq hp ha hb hs ht
  ·exact call_6 h hk hq hp ha hb hs ht
  ·exact call_7 h hk hq hp ha hb hs ht
  ·exact call_8 h hk hq hp ha hb hs ht
  ·exact call_9 h hk hq hp ha hb hs ht
  ·exact call_10 h hk hq hp ha hb hs ht
  ·exact call_11 h hk hq hp ha hb hs ht
  ·exact call_12 h hk hq hp ha hb hs ht
  ·exact call_13 h hk hq hp ha hb hs ht
  ·exact call_14 h hk hq hp ha hb hs ht
  ·exact call_15 h hk hq hp ha hb hs ht
  ·exact call_16 h hk hq hp ha hb hs ht
  ·exact call_17 h hk hq hp ha hb hs ht
  ·exact call_18 h hk hq hp ha hb hs ht
end
end Go.Proofs.YtcfhanoekniaaaaGreatDoor
namespace Go.Proofs.YtcfhanoekniaaaaGreatDoor
open Go.RowKit Go.Maps
abbrev Kcs:=List (Nat×Nat×Value)
def KC (w0 w:World) (m:Int) (kb:Nat) (C:Kcs) (S:KS) (q:Nat):Prop:=
 ∃H A,(H.kb=kb∧H.ok=true)∧KN w m H S q A∧(∀i,A i→w0.heap.size≤i)∧Below w0.heap.size w0 w∧∀y∈C,w.cell? ⟨y.1,y.2.1,none⟩=some y.2.2∧¬A y.1
def icells (b:Nat) (L:List Int):Kcs:=(List.range L.length).map fun i=>(b,i,.int .i64 (L.getD i 0))
structure CI where
 what:Int
 p:Int
 a:Int
 b:Int
 c:Int
 s:List UInt8
 t:List UInt8
structure CI.ok (x:CI):Prop where
 p:(Lit.int .i64 x.p).wf=true
 a:(Lit.int .i64 x.a).wf=true
 b:x.b≤9223372036854775807
def CScr (w:World) (ad:Option Addr) (len:Nat) (q:Nat→CI):Prop:=
 len=0∨∃blk off,ad=some ⟨blk,off,none⟩∧blk<w.heap.size∧∀i,i<len→(w.cell? ⟨blk,off+i*7,none⟩=some (.int .i64 (q i).what)∧w.cell? ⟨blk,off+i*7+1,none⟩=some (.int .i64 (q i).p)∧w.cell? ⟨blk,off+i*7+2,none⟩=some (.int .i64 (q i).a)∧w.cell? ⟨blk,off+i*7+3,none⟩=some (.int .i64 (q i).b)∧w.cell? ⟨blk,off+i*7+4,none⟩=some (.int .i64 (q i).c)∧w.cell? ⟨blk,off+i*7+5,none⟩=some (tx (q i).s)∧w.cell? ⟨blk,off+i*7+6,none⟩=some (tx (q i).t))∧(q i).ok
section
variable {w0 w w':World}{m:Int}{kb q q':Nat}{C:Kcs}{S S':KS}{p a b c v:Int}{s t:List UInt8}{o:Ow}
theorem KC.bel (h:KC w0 w m kb C S q):Below w0.heap.size w0 w:=by obtain ⟨_,_,_,_,_,b,_⟩:=h;exact b
theorem KC.er (h:KC w0 w m kb C S q):w.cell? ⟨0,0,none⟩=some errT:=by obtain ⟨_,_,_,k,_⟩:=h;exact k.1.er
theorem KC.at (h:KC w0 w m kb C S q) {x i:Nat}{v:Value}(hm:(x,i,v)∈C):w.cell? ⟨x,i,none⟩=some v:=by obtain ⟨_,_,_,_,_,_,hC⟩:=h;exact (hC _ hm).1
theorem KC.below (h:KC w0 w m kb C S q) (b:Below w.heap.size w w'):KC w0 w' m kb C S q:=by
 obtain ⟨H,A,e,k,hA,hb,hC⟩:=h
 exact ⟨H,A,e,k.below b,hA,hb.trans (b.mono hb.size),fun y hy=>⟨by rw [b.cell (p:=⟨y.1,y.2.1,none⟩) (World.block_lt_of_cell? w _ (hC y hy).1)];exact (hC y hy).1,(hC y hy).2⟩⟩
theorem KC.more (h:KC w0 w m kb C S q) (hq:q≤q'):KC w0 w m kb C S q':=by
 obtain ⟨H,A,e,k,r⟩:=h
 exact ⟨H,A,e,k.more hq,r⟩
theorem KC.sub (h:KC w0 w m kb C S q) {C':Kcs}(hs:∀y∈C',y∈C):KC w0 w m kb C' S q:=by
 obtain ⟨H,A,e,k,hA,hb,hC⟩:=h
 exact ⟨H,A,e,k,hA,hb,fun y hy=>hC y (hs y hy)⟩
theorem KC.add (h:KC w0 w m kb C S q) (b:Below w.heap.size w w') {C':Kcs}(hs:∀y∈C',w'.cell? ⟨y.1,y.2.1,none⟩=some y.2.2∧w.heap.size≤y.1):KC w0 w' m kb (C' ++ C) S q:=by
 obtain ⟨H,A,e,k,hA,hb,hC⟩:=h
 refine ⟨H,A,e,k.below b,hA,hb.trans (b.mono hb.size),fun y hy=>?_⟩
 rcases List.mem_append.1 hy with z|z
 ·exact ⟨(hs y z).1,fun z2=>by have:=k.1.lt _ z2;have:=(hs y z).2;omega⟩
 ·exact ⟨by rw [b.cell (p:=⟨y.1,y.2.1,none⟩) (World.block_lt_of_cell? w _ (hC y z).1)];exact (hC y z).1,(hC y z).2⟩
theorem KC.nxt {H:KH}{A:Nat→Prop}(e:H.kb=kb∧H.ok=true) (hA:∀i,A i→w0.heap.size≤i) (hb:Below w0.heap.size w0 w) (hC:∀y∈C,w.cell? ⟨y.1,y.2.1,none⟩=some y.2.2∧¬A y.1) (n:Nxt w m H q A S' w'):KC w0 w' m kb C S' (q+1):=by
 obtain ⟨H',A',⟨e1,e2⟩,k,st⟩:=n
 exact ⟨H',A',⟨e1.trans e.1,e2.trans e.2⟩,k,fun i hi=>by
  rcases st.own i hi with z|z
  ·exact hA i z
  ·exact Nat.le_trans hb.size z,Stp.toBelow hb hA st,fun y hy=>st.cellKept (hC y hy).1 (hC y hy).2⟩
theorem KC.lift {β:Type} {fn:FuncId}{args:Array Value}{y9:β→Ending}{R:β→KS→Prop}(h:KC w0 w m kb C S q)
 (f:∀(H:KH) (A:Nat→Prop),H.kb=kb→H.ok=true→KN w m H S q A→Calls Tryz.prog fn args w fun y w'=>∃x S',y=y9 x∧R x S'∧Nxt w m H q A S' w') :
 Calls Tryz.prog fn args w fun y w'=>∃x S',y=y9 x∧R x S'∧KC w0 w' m kb C S' (q+1):=by
 obtain ⟨H,A,e,k,hA,hb,hC⟩:=h
 refine (f H A e.1 e.2 k).mono ?_
 rintro y w' ⟨x,S',h1,h2,n⟩
 exact ⟨x,S',h1,h2,KC.nxt e hA hb hC n⟩
theorem KC.call (h:KC w0 w m kb C S q) (hq:q≤90) (x:CI) (ok:x.ok) (hs:x.s.length≤100) (ht:x.t.length≤60) :
 Calls Tryz.prog 33 #[wp kb,.agg #[.int .i64 x.what,.int .i64 x.p,.int .i64 x.a,.int .i64 x.b,.int .i64 x.c,tx x.s,tx x.t]] w fun y w'=>∃e S',y=.returned (uev e)∧CallK S x.p x.a x.b x.c x.s x.t x.what e S'∧KC w0 w' m kb C S' (q+1):=
 h.lift (y9:=fun e=>.returned (uev e)) fun H A e1 e2 k=>by rw [←e1];exact call_any x.what k e2 hq ok.p ok.a ok.b (by omega) (by omega)
theorem KC.limit (h:KC w0 w m kb C S q) (_hp:(Lit.int .i64 p).wf=true) (ho:S.O p=some o) (a b:Int) :
 Calls Tryz.prog 41 #[wp kb,.int .i64 p,.int .i64 a,.int .i64 b] w fun y w'=>y=.returned (uev (limE a b))∧KC w0 w' m kb C (limKS S p o a b) (q+1):=by
 refine (h.lift (y9:=fun _:Unit=>.returned (uev (limE a b))) (R:=fun _ S'=>S'=limKS S p o a b) fun H A e1 e2 k=>?_).mono ?_
 ·rw [←e1]
  refine (k.limit_yes ho a b).mono ?_
  rintro y w' ⟨rfl,A',k',st⟩
  exact ⟨(),_,rfl,rfl,.mk k' (by omega) st⟩
 ·rintro y w' ⟨_,S',rfl,rfl,k⟩
  exact ⟨rfl,k⟩
theorem KC.exit (h:KC w0 w m kb C S q) (hq:q≤90) (ho:S.O p=some o) (h1:p≠1) (c:Int) :
 Calls Tryz.prog 20 #[wp kb,.int .i64 p,.int .i64 c] w fun y w'=>y=.returned .nilIface∧KC w0 w' m kb C (endKS S p o c) q:=by
 obtain ⟨H,A,e,k,hA,hb,hC⟩:=h
 rw [←e.1]
 refine (k.exit_yes ho (by omega) c).mono ?_
 rintro y w' ⟨rfl,A',k',st⟩
 unfold exitKE exitKS at *
 rw [if_neg h1] at k' ⊢
 exact ⟨rfl,H,A',⟨rfl,e.2⟩,k',fun i hi=>by
  rcases st.own i hi with z|z
  ·exact hA i z
  ·exact Nat.le_trans hb.size z,Stp.toBelow hb hA st,fun y hy=>st.cellKept (hC y hy).1 (hC y hy).2⟩
theorem KC.wait (h:KC w0 w m kb C S q) (ho:S.O p=some o) :
 Calls Tryz.prog 36 #[wp kb,.int .i64 p] w fun y w'=>y=.returned (.tuple #[.int .i64 (waitO S.P p).1,.int .i64 (waitO S.P p).2.1,uev (waitO S.P p).2.2.1])∧KC w0 w' m kb C (S.procs (waitO S.P p).2.2.2) q:=by
 obtain ⟨H,A,e,k,hA,hb,hC⟩:=h
 rw [←e.1]
 refine (k.wait_yes ho).mono ?_
 rintro y w' ⟨rfl,A',k',st⟩
 exact ⟨rfl,H,A',⟨rfl,e.2⟩,k',fun i hi=>by
  rcases st.own i hi with z|z
  ·exact hA i z
  ·exact Nat.le_trans hb.size z,Stp.toBelow hb hA st,fun y hy=>st.cellKept (hC y hy).1 (hC y hy).2⟩
theorem KC.exec (h:KC w0 w m kb C S q) (hq:q≤90) (ho:S.O p=some o) :
 Calls Tryz.prog 37 #[wp kb,.int .i64 p] w fun y w'=>y=.returned .nilIface∧KC w0 w' m kb C (execKS S o) q:=by
 obtain ⟨H,A,e,k,hA,hb,hC⟩:=h
 rw [←e.1]
 refine (k.exec_yes ho (by omega)).mono ?_
 rintro y w' ⟨rfl,A',k',st⟩
 exact ⟨rfl,H,A',⟨rfl,e.2⟩,k',fun i hi=>by
  rcases st.own i hi with z|z
  ·exact hA i z
  ·exact Nat.le_trans hb.size z,Stp.toBelow hb hA st,fun y hy=>st.cellKept (hC y hy).1 (hC y hy).2⟩
theorem KC.close (h:KC w0 w m kb C S q) (hq:q≤90) (ho:S.O p=some o) (x:Int) :
 Calls Tryz.prog 15 #[wp kb,.int .i64 p,.int .i64 x] w fun y w'=>y=.returned (uev (if hasN (tsJ S o.j) x=true then 0 else 7))∧KC w0 w' m kb C (closeKS S o x) q:=by
 obtain ⟨H,A,e,k,hA,hb,hC⟩:=h
 rw [←e.1]
 refine (k.close_yes ho (by omega) x).mono ?_
 rintro y w' ⟨rfl,A',k',st⟩
 exact ⟨rfl,H,A',⟨rfl,e.2⟩,k',fun i hi=>by
  rcases st.own i hi with z|z
  ·exact hA i z
  ·exact Nat.le_trans hb.size z,Stp.toBelow hb hA st,fun y hy=>st.cellKept (hC y hy).1 (hC y hy).2⟩
theorem KC.kn (h:KC w0 w m kb C S q):∃H A,KN w m H S q A:=by obtain ⟨H,A,_,k,_⟩:=h;exact ⟨H,A,k⟩
theorem icells_mem {b:Nat}{L:List Int}{i:Nat}(hi:i<L.length):(b,i,Value.int .i64 L[i])∈icells b L:=by
 unfold icells
 rw [List.mem_map]
 exact ⟨i,List.mem_range.2 hi,by rw [List.getD_eq_getElem?_getD,List.getElem?_eq_getElem hi];rfl⟩
theorem KC.pids (h:KC w0 w m kb C S q):Calls Tryz.prog 34 #[wp kb] w fun e w'=>∃b cap,e=.returned (.slice (some ⟨b,0,none⟩) (pidsJ S.P).length cap)∧(pidsJ S.P).length≤cap∧KC w0 w' m kb (icells b (pidsJ S.P) ++ C) S q∧Below w.heap.size w w':=by
 have h':=h
 obtain ⟨H,A,e,k,hA,hb,hC⟩:=h'
 rw [←e.1]
 refine k.1.pids.mono ?_
 rintro y w' ⟨b,cap,rfl,hcap,hbg,hbl,hH,hB⟩
 refine ⟨b,cap,rfl,hcap,?_,hB⟩
 rw [e.1]
 refine h.add hB fun y hy=>?_
 unfold icells at hy
 rw [List.mem_map] at hy
 obtain ⟨i,hi,rfl⟩:=hy
 have hi:=List.mem_range.1 hi
 have:=(hH i (by simpa using hi)).1
 refine ⟨?_,hbg⟩
 show w'.cell? ⟨b,i,none⟩=_
 rw [Nat.zero_add] at this
 rw [this]
 show some (encZ _)=_
 unfold encZ
 rw [List.getD_eq_getElem?_getD,List.getElem?_eq_getElem hi,getElem!_pos _ i (by simpa using hi)]
 simp
theorem KC.state (h:KC w0 w m kb C S q) (n:Int) (hn:(Lit.int .i64 n).wf=true):Calls Tryz.prog 35 #[wp kb,.int .i64 n] w fun e w'=>e=.returned (.int .i64 (stJ S.P n))∧KC w0 w' m kb C S q∧Below w.heap.size w w':=by
 have h':=h
 obtain ⟨H,A,e,k,_⟩:=h'
 rw [←e.1]
 refine (k.1.state n hn).mono ?_
 rintro y w' ⟨rfl,hB⟩
 rw [e.1]
 exact ⟨rfl,h.below hB,hB⟩
theorem KC.has_yes (h:KC w0 w m kb C S q) (ho:S.O p=some o):Calls Tryz.prog 38 #[wp kb,.int .i64 p] w fun e w'=>e=.returned (.tuple #[.int .i64 (lenP (msJ S o.j):Nat),.int .i64 (resP (msJ S o.j):Nat),.int .i64 (usedN (tsJ S o.j):Nat),.nilIface])∧KC w0 w' m kb C S q∧Below w.heap.size w w':=by
 have h':=h
 obtain ⟨H,A,e,k,_⟩:=h'
 rw [←e.1]
 refine (k.1.has_yes ho).mono ?_
 rintro y w' ⟨rfl,hB⟩
 rw [e.1]
 exact ⟨rfl,h.below hB,hB⟩
theorem KC.has_no (h:KC w0 w m kb C S q) (ho:S.O p=none) (hp:(Lit.int .i64 p).wf=true):Calls Tryz.prog 38 #[wp kb,.int .i64 p] w fun e w'=>e=.returned (.tuple #[.int .i64 0,.int .i64 0,.int .i64 0,uer 7])∧KC w0 w' m kb C S q∧Below w.heap.size w w':=by
 have h':=h
 obtain ⟨H,A,e,k,_⟩:=h'
 rw [←e.1]
 refine (k.1.has_no ho hp).mono ?_
 rintro y w' ⟨rfl,rfl⟩
 rw [e.1]
 exact ⟨rfl,h,Below.refl _ _⟩
theorem KC.load (h:KC w0 w m kb C S q) (ho:S.O p=some o) (a k:Int) (ha:(Lit.int .i64 a).wf=true):Calls Tryz.prog 44 #[wp kb,.int .i64 p,.int .i64 a,.int .i64 k] w fun y w'=>y=.returned (.tuple #[.int .i64 (loadV (msJ S o.j) S.W a k),uev (useE (msJ S o.j) a k 1)])∧Below w.heap.size w w':=by
 obtain ⟨H,A,e,k9,_⟩:=h
 rw [←e.1]
 exact k9.1.load_yes ho a k ha
theorem KC.left (h:KC w0 w m kb C S q):Calls Tryz.prog 39 #[wp kb] w fun e w'=>e=.returned (.int .i64 ((S.n-used (totM S.Ms) S.n:Nat):Int))∧w'=w:=by
 obtain ⟨H,A,e,k,_⟩:=h
 rw [←e.1]
 exact k.1.left
theorem KC.opens (h:KC w0 w m kb C S q) {n:Nat}(hn:IsN S.D.E n):Calls Tryz.prog 21 #[wp kb] w fun e w'=>e=.returned (.int .i64 (n:Int))∧w'=w:=by
 obtain ⟨H,A,e,k,_⟩:=h
 rw [←e.1]
 exact k.1.open_ok hn
theorem KC.wf (h:KC w0 w m kb C S q) (hp:p∈pidsJ S.P):(Lit.int .i64 p).wf=true:=by
 obtain ⟨H,A,e,k,_⟩:=h
 obtain ⟨G,g,_⟩:=k.1
 obtain ⟨c,qj⟩:=g.qj
 obtain ⟨r,hr⟩:=Option.isSome_iff_exists.1 (qj.ok.pids.1 hp)
 exact wf24 (qj.key p r hr)
theorem KC.jok (h:KC w0 w m kb C S q):JOk S.P:=by
 obtain ⟨H,A,e,k,_⟩:=h
 obtain ⟨G,g,_⟩:=k.1
 obtain ⟨c,qj⟩:=g.qj
 exact qj.ok
theorem KC.len24 (_h:KC w0 w m kb C S q):(pidsJ S.P).length≤24:=pidsJ_len S.P
theorem kc_new (w w1:World) (hb:Below w.heap.size w w1) (n:Nat) (h1:1≤n) (h2:n≤256) (hm:w.cell? ⟨4,0,none⟩=some (.int .i64 m)) (he:w.cell? ⟨0,0,none⟩=some errT) (ht:Tab64 w) :
 Calls Tryz.prog 12 #[.int .i64 (n:Int)] w1 fun y w'=>∃kb,y=.returned (.tuple #[wp kb,.nilIface])∧KC w w' m kb [] (firstS n) 0:=by
 have hml:4<w.heap.size:=World.block_lt_of_cell? w _ hm
 have hel:0<w.heap.size:=World.block_lt_of_cell? w _ he
 have htl:2<w.heap.size:=ht.lt
 refine (kernelNew_ok (ok:=true) w1 n h1 h2 (by rw [hb.cell (p:=⟨4,0,none⟩) hml];exact hm) (by rw [hb.cell (p:=⟨0,0,none⟩) hel];exact he) ⟨Nat.lt_of_lt_of_le htl hb.size,fun _=>ht.keep (hb.block _ htl)⟩).mono ?_
 rintro y w' ⟨H,A,rfl,k,hA,hB,hk⟩
 exact ⟨H.kb,rfl,H,A,⟨rfl,hk⟩,k,fun i hi=>Nat.le_trans hb.size (hA i hi),hb.trans (hB.mono hb.size),fun y hy=>by cases hy⟩
end
end Go.Proofs.YtcfhanoekniaaaaGreatDoor
namespace Go.Proofs.YtcfhanoekniaaaaGreatDoor
open Go.RowKit Go.Maps
def Short (q:Nat→CI) (len:Nat):Prop:=len≤40∧∀i,i<len→(q i).s.length≤100∧(q i).t.length≤60
def CallsO (q:Nat→CI) (len:Nat) (w:World) (e:Ending) (w':World):Prop:=∃b,e=.returned (.bool b)∧(b=true↔Short q len)∧w'=w
theorem calls_any (ad:Option Addr) (len cap:Nat) (q:Nat→CI) (w:World) (hsc:CScr w ad len q) :
 Calls Tryz.prog 31 #[.slice ad len cap] w (CallsO q len w):=by
 by_cases h1:(40:Int)<(len:Int)
 ·clear hsc
  go_enter Tryz.func31,Tryz.ntmps31
  go_wp2_with fail
  go_ret
  exact ⟨false,rfl,⟨fun h=>(by cases h),fun h=>(by have:=h.1;omega)⟩,rfl⟩
 ·go_enter Tryz.func31,Tryz.ntmps31
  go_wp2_with fail
  go_loopg [3] len (fun g s3 wr=>∃i:Nat,i+g=len∧s3=.int .i64 (i:Int)∧wr=w∧Aside (∀j,j<i→(q j).s.length≤100∧(q j).t.length≤60))
  case atStart=>exact ⟨0,by omega,rfl,rfl,fun j hj=>by omega⟩
  case round=>
   obtain ⟨i,hi,rfl,hw,HS⟩:=hrel
   subst hw
   obtain ⟨G0,hG0⟩:∃G0,gk=G0:=⟨_,rfl⟩
   by_cases hlt:(i:Int)<(len:Int)
   ·rcases hsc with h0|⟨blk,off,rfl,hbl,hss⟩
    ·exfalso;omega
    obtain ⟨⟨_,_,_,_,_,c5,c6⟩,_⟩:=hss i (by omega)
    clear hss
    have HX:Aside (∀X,(q i).s=X→∀Y,(q i).t=Y→X.length≤100→Y.length≤60→∀j,j<i+1→(q j).s.length≤100∧(q j).t.length≤60):=fun X hX Y hY h3 h4 j hj=>by
     by_cases e:j=i
     ·rw [e,hX,hY];exact ⟨h3,h4⟩
     ·exact HS.out j (by omega)
    have HN:Aside (∀X,(q i).s=X→∀Y,(q i).t=Y→¬(X.length≤100∧Y.length≤60)→¬Short q len):=fun X hX Y hY h3 h4=>by
     have:=h4.2 i (by omega)
     rw [hX,hY] at this
     exact h3 this
    obtain ⟨X,hX⟩:∃X,(q i).s=X:=⟨_,rfl⟩
    obtain ⟨Y,hY⟩:∃Y,(q i).t=Y:=⟨_,rfl⟩
    rw [hX] at c5
    rw [hY] at c6
    have HX2:Aside (X.length≤100→Y.length≤60→∀j,j<i+1→(q j).s.length≤100∧(q j).t.length≤60):=HX.out X hX Y hY
    have HN2:Aside (¬(X.length≤100∧Y.length≤60)→¬Short q len):=HN.out X hX Y hY
    clear HX HN hX hY HS
    by_cases l1:(100:Int)<(X.length:Int)
    ·go_wp2_with fail
     go_ret
     exact ⟨false,rfl,⟨fun h=>(by cases h),fun h=>absurd h (HN2.out (by omega))⟩,rfl⟩
    ·by_cases l2:(60:Int)<(Y.length:Int)
     ·go_wp2_with fail
      go_ret
      exact ⟨false,rfl,⟨fun h=>(by cases h),fun h=>absurd h (HN2.out (by omega))⟩,rfl⟩
     ·go_wp2_with fail
      go_roundg (G0-1)
      case measure=>omega
      case rel=>exact ⟨i+1,by omega,by go_num,rfl,HX2.out (by omega) (by omega)⟩
   ·clear hsc
    go_wp2_with fail
    go_ret
    exact ⟨true,rfl,⟨fun _=>⟨by omega,fun j hj=>HS.out j (by omega)⟩,fun _=>rfl⟩,rfl⟩
theorem calls_yes (ad:Option Addr) (len cap:Nat) (q:Nat→CI) (w:World) (hsc:CScr w ad len q) (h:Short q len):Calls Tryz.prog 31 #[.slice ad len cap] w fun e w'=>e=.returned (.bool true)∧w'=w:=by
 refine (calls_any ad len cap q w hsc).mono ?_
 rintro e w' ⟨b,rfl,hb,rfl⟩
 rw [hb.2 h]
 exact ⟨rfl,rfl⟩
theorem calls_no (ad:Option Addr) (len cap:Nat) (q:Nat→CI) (w:World) (hsc:CScr w ad len q) (h:¬Short q len):Calls Tryz.prog 31 #[.slice ad len cap] w fun e w'=>e=.returned (.bool false)∧w'=w:=by
 refine (calls_any ad len cap q w hsc).mono ?_
 rintro e w' ⟨b,rfl,hb,rfl⟩
 cases b with
 |false=>exact ⟨rfl,rfl⟩
 |true=>exact absurd (hb.1 rfl) h
theorem CScr.keep {w w':World}{ad:Option Addr}{len:Nat}{q:Nat→CI}(h:CScr w ad len q) (hb:Below w.heap.size w w'):CScr w' ad len q:=by
 rcases h with h0|⟨blk,off,rfl,hbl,hss⟩
 ·exact .inl h0
 ·refine .inr ⟨blk,off,rfl,Nat.lt_of_lt_of_le hbl hb.size,fun i hi=>?_⟩
  simp only [hb.cell (p:=⟨blk,_,none⟩) hbl]
  exact hss i hi
end Go.Proofs.YtcfhanoekniaaaaGreatDoor

/- What holds of all that is open, behind names that are made, linked, and named otherwise. -/
import Derived.Test.YtcfhanoekniaaaaGreatDoorDOps
import Derived.Test.YtcfhanoekniaaaaGreatDoorUMkdir
import Derived.Test.YtcfhanoekniaaaaGreatDoorZWrite
import Derived.Test.YtcfhanoekniaaaaGreatDoorZNo
import Derived.Test.YtcfhanoekniaaaaGreatDoorZPipe
import Derived.Test.YtcfhanoekniaaaaGreatDoorWAbs
import Derived.WalkKit
import Derived.Test.YtcfhanoekniaaaaGreatDoorPick
import Derived.Deep.LoopGhost
import Derived.Deep.DeepCutAuto
import Derived.Deep.CutBlock
set_option maxHeartbeats 4000000
set_option maxRecDepth 100000
namespace Go.Proofs.YtcfhanoekniaaaaGreatDoor
open Go.RowKit Go.Maps
theorem VG {T:Wd}{s:Nat}{p:List UInt8}{z:Int}(hT:TrOk T) (hs:dm T s) (hM:bC T s p=0) (hz:gZ T z):z<64:=by
 have Xm:=(kN hT hM).2.2.2
 have h9:=hs.free (k:=z.toNat) (fun i hi=>hz.least i (by omega) (by have:=hz.pos;omega))
 have:=hz.pos
 omega
section
variable {D:DS}{Ts:List Ns}{k:Nat}
theorem Inv.link (h:Inv D Ts k) (p q:List UInt8):Inv { D with T:=lY D.T p q } Ts (k+1):=h.Js (h.core.lv.link p q) (h.core.sm.link p q)
theorem Inv.rename (h:Inv D Ts k) (p q:List UInt8):Inv { D with T:=eO D.T p q } Ts (k+1):=h.Js (h.core.lv.rename p q) (h.core.sm.rename p q)
theorem Inv.make (h:Inv D Ts k) {s:Nat}(hs:dm D.T s) {p:List UInt8}(hE:bC D.T s p=0) {z:Int}(hz:gZ D.T z) (dir:Bool):Inv { D with T:=iD D.T p dir z } Ts (k+1):=
 h.Js (h.core.lv.make hE hz (VG h.core.lv.toTrOk hs hE hz) dir) (h.core.sm.make p dir z)
end
section
variable {w w' V:World}{m:Int}{H:KH}{S:KS}{U:Nat→Nat→Int}{q:Nat}{A A':Nat→Prop}{p:Int}{o:Ow}{f r k:Nat}{D:DS}{bs:List Nat}{Ts:List Ns}
theorem KD.Ho (h:KD w m f r D bs Ts k A) {fn:FuncId}{args:Array Value}{Q:Ending→Wd→Prop}(hI:∀y T',Q y T'→Inv { D with T:=T' } Ts (k+1))
 (hc:∀O,PT w r D.T O→Calls Tryz.prog fn args w fun y w'=>∃T' O',Q y T'∧PT w' r T' O'∧Stp w w' O O') :
 Calls Tryz.prog fn args w fun y w'=>∃T' A',Q y T'∧KD w' m f r { D with T:=T' } bs Ts (k+1) A'∧Stp w w' A A':=by
 obtain ⟨g,n,h1,hr,ht,hA⟩:=h.st
 obtain ⟨O,pt,hO⟩:=h1.tree
 rw [hr] at pt
 refine (hc O pt).mono ?_
 rintro y w' ⟨T',O',hQ,p',st⟩
 rw [←hr] at p'
 obtain ⟨g',a1,a2,a3,a4,_⟩:=h1.turn hO p' st
 have hst:Stp w w' A (fun i=>A i∨(w.heap.size≤i∧i<w'.heap.size)):=⟨st.wt.mono (fun i hi=>hA i (by rw [hO i hi];rfl)),fun i hi=>by
  rcases hi with hi|hi
  ·exact .inl hi
  ·exact .inr hi.1⟩
 refine ⟨T',_,hQ,⟨⟨g',n,a1,a4.trans hr,fun x hx hx'=>?_,fun i hi=>?_⟩,h.len,h.nd,fun b hb=>.inl (h.PW b hb),hI y T' hQ,fun i hi=>?_,(hst.aW h.ml h.mn).1,(hst.aW h.ml h.mn).2,(hst.aW h.er h.en).1,(hst.aW h.er h.en).2⟩,hst⟩
 ·obtain ⟨Mx,tx⟩:=ht x hx hx'
  exact ⟨Mx,tx.MQ (st.wt.block _ tx.tab.lt (fun o=>by have:=hO _ o;rw [tx.off] at this;cases this)) a2 a3⟩
 ·by_cases e1:i<w.heap.size
  ·rw [a2 i e1] at hi;exact .inl (hA i hi)
  ·exact .inr ⟨by omega,a1.lt i hi⟩
 ·rcases hi with hi|hi
  ·exact Nat.lt_of_lt_of_le (h.lt i hi) st.wt.size
  ·exact hi.2
theorem KN.QU (h:KN w m H S q A) (hq:q≤200) (s:List UInt8) (hs:s.length<100000) :
 Calls Tryz.prog 269 #[wp H.r,tx s] w fun y w'=>y=.returned (aJ (eH S.D.T s))∧∃A',KN w' m H (S.tree (eG S.D.T s)) (q+1) A'∧Stp w w' A A':=by
 refine (h.1.Hl (Q:=fun y T'=>y=.returned (aJ (eH S.D.T s))∧T'=eG S.D.T s) (fun bs Ad kd=>kd.Ho (fun y T' hQ=>?_) (fun O pt=>?_))).mono ?_
 ·obtain ⟨_,rfl⟩:=hQ;exact kd.inv.unlink s
 ·refine (pt.JU kd.inv.core.lv s hs m kd.ml (fun i C e=>by have:=kd.inv.core.sm.1 i C e;omega)).mono ?_
  rintro y w' ⟨rfl,p',st⟩
  exact ⟨_,_,⟨rfl,rfl⟩,p',st⟩
 ·rintro y w' ⟨T',⟨rfl,rfl⟩,A',k',st⟩
  exact ⟨rfl,A',k'.Hm h.2,st⟩
theorem KN.qJ (h:KN w m H S q A) (ho:S.O p=some o) (hq:q≤200) (s:List UInt8) (hs:s.length<100000) :
 Calls Tryz.prog 193 #[wp H.kb,.int .i64 p,tx s] w fun y w'=>y=.returned (aJ (eH S.D.T s))∧∃A',KN w' m H (S.tree (eG S.D.T s)) (q+1) A'∧Stp w w' A A':=by
 have hF:=h.1.aC ho
 have c1:=h.1.c1
 have hU:=h.QU hq s hs
 generalize S.tree (eG S.D.T s)=S2 at *
 generalize eH S.D.T s=E at *
 clear h ho hq
 go_enter Tryz.func193,Tryz.ntmps193
 go_wp2_with (first
  |(go_at_call 51;refine hF.mono ?_;rintro e w1 ⟨rfl,hw⟩;subst w1)
  |(go_at_call 269;refine hU.mono ?_;rintro e w1 ⟨rfl,hR⟩))
 go_ret
 exact ⟨rfl,hR⟩
theorem KN.ab4 (h:KN w m H S q A) (hq:q≤200) (s u:List UInt8) (hs:s.length<100000) (hu:u.length<100000) :
 Calls Tryz.prog 268 #[wp H.r,tx s,tx u] w fun y w'=>y=.returned (aJ (nZ S.D.T s u))∧∃A',KN w' m H (S.tree (lY S.D.T s u)) (q+1) A'∧Stp w w' A A':=by
 refine (h.1.Hl (Q:=fun y T'=>y=.returned (aJ (nZ S.D.T s u))∧T'=lY S.D.T s u) (fun bs Ad kd=>kd.Ho (fun y T' hQ=>?_) (fun O pt=>?_))).mono ?_
 ·obtain ⟨_,rfl⟩:=hQ;exact kd.inv.link s u
 ·refine (pt.RY kd.inv.core.lv s u hs hu m kd.ml (fun i C e=>by have:=kd.inv.core.sm.1 i C e;omega)).mono ?_
  rintro y w' ⟨rfl,p',st⟩
  exact ⟨_,_,⟨rfl,rfl⟩,p',st⟩
 ·rintro y w' ⟨T',⟨rfl,rfl⟩,A',k',st⟩
  exact ⟨rfl,A',k'.Hm h.2,st⟩
theorem KN.Q8 (h:KN w m H S q A) (hq:q≤200) (s u:List UInt8) (hs:s.length<100000) (hu:u.length<100000) :
 Calls Tryz.prog 270 #[wp H.r,tx s,tx u] w fun y w'=>y=.returned (aJ (fw S.D.T s u))∧∃A',KN w' m H (S.tree (eO S.D.T s u)) (q+1) A'∧Stp w w' A A':=by
 refine (h.1.Hl (Q:=fun y T'=>y=.returned (aJ (fw S.D.T s u))∧T'=eO S.D.T s u) (fun bs Ad kd=>kd.Ho (fun y T' hQ=>?_) (fun O pt=>?_))).mono ?_
 ·obtain ⟨_,rfl⟩:=hQ;exact kd.inv.rename s u
 ·refine (pt.Kh kd.inv.core.lv s u hs hu m kd.ml (fun i C e=>by have:=kd.inv.core.sm.1 i C e;omega)).mono ?_
  rintro y w' ⟨rfl,p',st⟩
  exact ⟨_,_,⟨rfl,rfl⟩,p',st⟩
 ·rintro y w' ⟨T',⟨rfl,rfl⟩,A',k',st⟩
  exact ⟨rfl,A',k'.Hm h.2,st⟩
theorem KN.qL (h:KN w m H S q A) (ho:S.O p=some o) (hq:q≤200) (s u:List UInt8) (hs:s.length<100000) (hu:u.length<100000) :
 Calls Tryz.prog 194 #[wp H.kb,.int .i64 p,tx s,tx u] w fun y w'=>y=.returned (aJ (fw S.D.T s u))∧∃A',KN w' m H (S.tree (eO S.D.T s u)) (q+1) A'∧Stp w w' A A':=by
 have hF:=h.1.aC ho
 have c1:=h.1.c1
 have hU:=h.Q8 hq s u hs hu
 generalize S.tree (eO S.D.T s u)=S2 at *
 generalize fw S.D.T s u=E at *
 clear h ho hq
 go_enter Tryz.func194,Tryz.ntmps194
 go_wp2_with (first
  |(go_at_call 51;refine hF.mono ?_;rintro e w1 ⟨rfl,hw⟩;subst w1)
  |(go_at_call 270;refine hU.mono ?_;rintro e w1 ⟨rfl,hR⟩))
 go_ret
 exact ⟨rfl,hR⟩
def QH (T:Wd) (s:Nat) (path:List UInt8) (c:Int) (T':Wd):Prop:=(bC T s path≠0∧c=bC T s path∧T'=T)∨(bC T s path=0∧c=0∧∃z,gZ T z∧T'=iD T path true z)
theorem KN.Vx (h:KN w m H S q A) (hq:q≤200) {s:Nat}(hs:dm S.D.T s) (path:List UInt8) (hp:path.length<100000) :
 Calls Tryz.prog 267 #[wp H.r,tx path] w fun y w'=>∃x c T',y=.returned (.tuple #[.int .i64 x,aJ c])∧QH S.D.T s path c T'∧∃A',KN w' m H (S.tree T') (q+1) A'∧Stp w w' A A':=by
 refine (h.1.Hl (Q:=fun y T'=>∃x c,y=.returned (.tuple #[.int .i64 x,aJ c])∧QH S.D.T s path c T') (fun bs Ad kd=>kd.Ho (fun y T' hQ=>?_) (fun O pt=>?_))).mono ?_
 ·obtain ⟨x,c,_,hM⟩:=hQ
  rcases hM with ⟨_,_,rfl⟩|⟨hE,_,z,hz,rfl⟩
  ·exact kd.inv.more (by omega)
  ·exact kd.inv.make hs hE hz true
 ·refine (pt.OE kd.inv.core.lv hs path hp m kd.ml (fun i C e=>by have:=kd.inv.core.sm.1 i C e;omega)).mono ?_
  rintro y w' (⟨hE,rfl,p',st⟩|⟨hE,z,O',hz,h64,rfl,p',st⟩)
  ·exact ⟨_,_,⟨0,bC S.D.T s path,by rw [aB hE],.inl ⟨hE,rfl,rfl⟩⟩,p',st⟩
  ·exact ⟨_,_,⟨z,0,rfl,.inr ⟨hE,rfl,z,hz,rfl⟩⟩,p',st⟩
 ·rintro y w' ⟨T',⟨x,c,rfl,hM⟩,A',k',st⟩
  exact ⟨x,c,T',rfl,hM,A',k'.Hm h.2,st⟩
theorem KN.KI (h:KN w m H S q A) (ho:S.O p=some o) (hq:q≤200) {s:Nat}(hs:dm S.D.T s) (path:List UInt8) (hp:path.length<100000) :
 Calls Tryz.prog 191 #[wp H.kb,.int .i64 p,tx path] w fun y w'=>∃c T',y=.returned (aJ c)∧QH S.D.T s path c T'∧∃A',KN w' m H (S.tree T') (q+1) A'∧Stp w w' A A':=by
 have hF:=h.1.aC ho
 have c1:=h.1.c1
 have hU:=h.Vx hq hs path hp
 clear h ho hq hs hp
 go_enter Tryz.func191,Tryz.ntmps191
 go_wp2_with (first
  |(go_at_call 51;refine hF.mono ?_;rintro e w1 ⟨rfl,hw⟩;subst w1)
  |(go_at_call 267;refine hU.mono ?_;rintro e w1 ⟨x,c,T',rfl,hR⟩))
 go_ret
 exact ⟨c,T',rfl,hR⟩
end
section
variable {w w' w1 w2 V:World}{m:Int}{H:KH}{S:KS}{U:Nat→Nat→Int}{q:Nat}{G:KG}{A A' X:Nat→Prop}{p:Int}{o:Ow}
theorem KX.X6 (h:KX w m H S U q A) (ho:S.O p=some o) (hq:q≤200) (x y9:Int) {xk xh xn xt:Nat}(hb:pX w A [(xk,wp H.kb),(xh,wp (H.hs o.j)),(xn,.int .i64 x),(xt,.int .i64 y9)]) :
 Calls Tryz.prog 207 #[wp xk,wp xh,wp xn,wp xt] w fun y w'=>y=.returned (aJ (eu (ax S o.j) x y9))∧∃A',KX w' m H (S.files (eB S.D (ax S o.j) x y9) o.j (ek (ax S o.j) x y9)) U q A'∧Stp w w' A A':=by
 have cells:∀ {w':World}{A':Nat→Prop}{S':KS},KX w' m H S' U q A'→S'.O p=some o→pX w' A' [(xk,wp H.kb),(xh,wp (H.hs o.j)),(xn,.int .i64 x),(xt,.int .i64 y9)]→w'.cell? ⟨xk,0,none⟩=some (wp H.kb)∧w'.cell? ⟨H.kb,2,none⟩=some (wp H.f)∧w'.cell? ⟨xh,0,none⟩=some (wp (H.hs o.j))∧w'.cell? ⟨H.hs o.j,1,none⟩=some (wp (H.tb o.j))∧w'.cell? ⟨xn,0,none⟩=some (.int .i64 x)∧w'.cell? ⟨xt,0,none⟩=some (.int .i64 y9):=fun h' ho' b'=>
  ⟨(b' (xk,_) (by simp)).1,h'.c2,(b' (xh,_) (by simp)).1,(h'.hd ho').at 1,(b' (xn,_) (by simp)).1,(b' (xt,_) (by simp)).1⟩
 have c0:=cells h ho hb
 have hM:Calls Tryz.prog 208 #[wp H.f,wp (H.tb o.j),.int .i64 x,.int .i64 y9] w.drew fun y w'=>y=.returned (aJ (eu (ax S o.j) x y9))∧(w'.cell? ⟨xk,0,none⟩=some (wp H.kb)∧w'.cell? ⟨H.kb,2,none⟩=some (wp H.f)∧w'.cell? ⟨xh,0,none⟩=some (wp (H.hs o.j))∧w'.cell? ⟨H.hs o.j,1,none⟩=some (wp (H.tb o.j))∧w'.cell? ⟨xn,0,none⟩=some (.int .i64 x)∧w'.cell? ⟨xt,0,none⟩=some (.int .i64 y9))∧∃A',KX w' m H (S.files (eB S.D (ax S o.j) x y9) o.j (ek (ax S o.j) x y9)) U q A'∧Stp w w' A A':=by
  refine ((h.below (bJ w)).X7 (h.qx ho) hq x y9).mono ?_
  rintro y w' ⟨rfl,A',h',st⟩
  have st':Stp w w' A A':=Stp.base (V:=w.drew) rfl rfl rfl rfl st
  exact ⟨rfl,cells h' ho (hb.oo st'),A',h',st'⟩
 generalize S.files (eB S.D (ax S o.j) x y9) o.j (ek (ax S o.j) x y9)=S2 at *
 generalize (eu (ax S o.j) x y9:Int)=E at *
 clear h ho cells hb hq
 go_enter Tryz.func207,Tryz.ntmps207
 go_upto_region 1 with fail
 go_region_held3 (fun w'=>w'.cell? ⟨xk,0,none⟩=some (wp H.kb)∧w'.cell? ⟨H.kb,2,none⟩=some (wp H.f)∧w'.cell? ⟨xh,0,none⟩=some (wp (H.hs o.j))∧w'.cell? ⟨H.hs o.j,1,none⟩=some (wp (H.tb o.j))∧w'.cell? ⟨xn,0,none⟩=some (.int .i64 x)∧w'.cell? ⟨xt,0,none⟩=some (.int .i64 y9)) (first|exact c0|exact c1) (first
  |(go_at_call 208;refine hM.mono ?_;rintro e w1 ⟨rfl,c1,hR⟩))
 all_goals
  clear c0 c1 hM
  go_wp2_with fail
  go_ret
  exact ⟨rfl,hR⟩
theorem KX.X5 (h:KX w m H S U q A) (ho:S.O p=some o) (hq:q≤200) (y9:Int) {xk xh xt:Nat}(hb:pX w A [(xk,wp H.kb),(xh,wp (H.hs o.j)),(xt,.int .i64 y9)]) :
 Calls Tryz.prog 209 #[wp xk,wp xh,wp xt] w fun y w'=>y=.returned (aJ (if aH (ax S o.j) y9=true then 0 else 7))∧∃A',KX w' m H (S.files (fK S.D (ax S o.j) y9) o.j (gp (ax S o.j) y9)) U q A'∧Stp w w' A A':=by
 have cells:∀ {w':World}{A':Nat→Prop}{S':KS},KX w' m H S' U q A'→S'.O p=some o→pX w' A' [(xk,wp H.kb),(xh,wp (H.hs o.j)),(xt,.int .i64 y9)]→w'.cell? ⟨xk,0,none⟩=some (wp H.kb)∧w'.cell? ⟨H.kb,2,none⟩=some (wp H.f)∧w'.cell? ⟨xh,0,none⟩=some (wp (H.hs o.j))∧w'.cell? ⟨H.hs o.j,1,none⟩=some (wp (H.tb o.j))∧w'.cell? ⟨xt,0,none⟩=some (.int .i64 y9):=fun h' ho' b'=>
  ⟨(b' (xk,_) (by simp)).1,h'.c2,(b' (xh,_) (by simp)).1,(h'.hd ho').at 1,(b' (xt,_) (by simp)).1⟩
 have c0:=cells h ho hb
 have hM:Calls Tryz.prog 57 #[wp H.f,wp (H.tb o.j),.int .i64 y9] w.drew fun y w'=>y=.returned (aJ (if aH (ax S o.j) y9=true then 0 else 7))∧(w'.cell? ⟨xk,0,none⟩=some (wp H.kb)∧w'.cell? ⟨H.kb,2,none⟩=some (wp H.f)∧w'.cell? ⟨xh,0,none⟩=some (wp (H.hs o.j))∧w'.cell? ⟨H.hs o.j,1,none⟩=some (wp (H.tb o.j))∧w'.cell? ⟨xt,0,none⟩=some (.int .i64 y9))∧∃A',KX w' m H (S.files (fK S.D (ax S o.j) y9) o.j (gp (ax S o.j) y9)) U q A'∧Stp w w' A A':=by
  refine ((h.below (bJ w)).NB (h.qx ho) hq y9).mono ?_
  rintro y w' ⟨rfl,A',h',st⟩
  have st':Stp w w' A A':=Stp.base (V:=w.drew) rfl rfl rfl rfl st
  exact ⟨rfl,cells h' ho (hb.oo st'),A',h',st'⟩
 generalize S.files (fK S.D (ax S o.j) y9) o.j (gp (ax S o.j) y9)=S2 at *
 generalize (if aH (ax S o.j) y9=true then 0 else 7:Int)=E at *
 clear h ho cells hb hq
 go_enter Tryz.func209,Tryz.ntmps209
 go_upto_region 1 with fail
 go_region_held3 (fun w'=>w'.cell? ⟨xk,0,none⟩=some (wp H.kb)∧w'.cell? ⟨H.kb,2,none⟩=some (wp H.f)∧w'.cell? ⟨xh,0,none⟩=some (wp (H.hs o.j))∧w'.cell? ⟨H.hs o.j,1,none⟩=some (wp (H.tb o.j))∧w'.cell? ⟨xt,0,none⟩=some (.int .i64 y9)) (first|exact c0|exact c1) (first
  |(go_at_call 57;refine hM.mono ?_;rintro e w1 ⟨rfl,c1,hR⟩))
 all_goals
  clear c0 c1 hM
  go_wp2_with fail
  go_ret
  exact ⟨rfl,hR⟩
theorem Lu {N:Ns}{x y:Int}(h:eu N x y=0):aH N x=true∧0≤y∧y≤7:=by
 unfold eu at h
 split at h
 ·rename_i hx
  split at h
  ·rename_i hy;exact ⟨hx,hy⟩
  ·omega
 ·omega
theorem rT {D:DS}{N:Ns}{x y:Int}(h:eu N x y≠0):eB D N x y=D∧ek N x y=N:=⟨if_neg (fun z=>h z.1),if_neg (fun z=>h z.1)⟩
theorem Lv {D:DS}{N:Ns}{x y:Int}(h8:N.length=8) (ht:∀z∈N,0≤z.1∧(z.1=0→z.2=false)) (hC:wC D N) (hpos:∀i (hi:i<N.length),0<N[i].1→∃c:Nat,D.R N[i].1=some (c:Int)∧0<c) (h:eu N x y=0) (hy:aH N y=false) :
 fK (eB D N x y) (ek N x y) y=D∧gp (ek N x y) y=N∧aH (ek N x y) y=true:=by
 obtain ⟨hx,y0,y7⟩:=Lu h
 obtain ⟨i,rfl,hi,aF,h0⟩:=dK hx h8
 obtain ⟨j,rfl⟩:∃j:Nat,y=j:=⟨y.toNat,by omega⟩
 have sQ:j<N.length:=by omega
 have hne:(i:Int)≠j:=fun e=>by
  have:i=j:=by omega
  subst this
  rw [hx] at hy;cases hy
 have hj0:N[j].1=0:=by
  have a:=(ht _ (List.getElem_mem sQ)).1
  have:¬0<N[j].1:=fun z=>by
   have:aH N j=true:=by unfold aH;rw [getD_in sQ];simp;omega
   rw [this] at hy;cases hy
  omega
 have e1:eB D N i j=ib D N[i].1:=by unfold eB;rw [if_pos ⟨h,hne⟩,getD_in aF,getD_in sQ,if_pos hj0]
 have e2:ek N i j=N.set j (N[i].1,false):=by unfold ek;rw [if_pos ⟨h,hne⟩,getD_in aF,Int.toNat_natCast]
 have Y9:j<(N.set j (N[i].1,false)).length:=by rw [List.length_set];exact sQ
 have e3:(N.set j (N[i].1,false))[j]=(N[i].1,false):=List.getElem_set_self Y9
 have hh:aH (N.set j (N[i].1,false)) j=true:=by unfold aH;rw [getD_in Y9,e3];simp;omega
 obtain ⟨e,c0,he,hc,_,_⟩:=hC i aF h0
 obtain ⟨c,hcr,hcp⟩:=hpos i aF h0
 rw [e1,e2]
 refine ⟨?_,?_,hh⟩
 ·unfold fK
  rw [if_pos hh,getD_in Y9,e3]
  unfold aQ
  have r1:(ib D N[i].1).E N[i].1=some e:=he
  have r2:(ib D N[i].1).R N[i].1=some ((c:Int)+1):=by
   show (if N[i].1=N[i].1 then some ((D.R N[i].1).getD 0+1) else _)=_
   rw [if_pos rfl,hcr];rfl
  simp only [r1,r2]
  rw [if_pos (by omega)]
  have r3:(fun z=>if z=N[i].1 then some ((c:Int)+1-1) else (ib D N[i].1).R z)=D.R:=by
   funext z
   by_cases ez:z=N[i].1
   ·rw [if_pos ez,ez,hcr];congr 1;omega
   ·rw [if_neg ez]
    show (if z=N[i].1 then _ else D.R z)=D.R z
    rw [if_neg ez]
  rw [r3];rfl
 ·unfold gp
  rw [if_pos hh,Int.toNat_natCast,List.set_set]
  have:N[j]=((0:Int),false):=Prod.ext hj0 ((ht _ (List.getElem_mem sQ)).2 hj0)
  rw [←this,List.set_getElem_self]
def lT (S:KS) (o:Ow) (x y:Int):Int:=if eu (ax S o.j) x y≠0 then eu (ax S o.j) x y else if aH (ax S o.j) y=true∨mf S o 1 then 0 else 4
noncomputable def iB (S:KS) (o:Ow) (x y:Int):KS:=if lT S o x y=0 then S.files (eB S.D (ax S o.j) x y) o.j (ek (ax S o.j) x y) else S
def oG (N:Ns) (y:Int):Int:=if aH N y=true then 0 else 1
theorem NG {S:KS}{o:Ow}{x y:Int}(h8:(ax S o.j).length=8) (hE:eu (ax S o.j) x y=0):why (jX S o.j) o.m 1 (oG (ax S o.j) y)=lT S o x y:=by
 unfold lT
 rw [if_neg (not_not_intro hE)]
 unfold oG
 by_cases hy:aH (ax S o.j) y=true
 ·rw [if_pos hy,if_pos (.inl hy)]
  have e:jX S o.j (1:Int).toNat=((aj (ax S o.j):Nat):Int):=rfl
  unfold why
  rw [e,if_neg (by omega),if_neg (by omega),if_neg (by omega),if_neg (by omega)]
 ·rw [if_neg hy,Ia ⟨by omega,by omega⟩ h8]
  by_cases hf:mf S o 1
  ·have e1:(if ((aj (ax S o.j):Nat):Int)+1≤o.m 1 then (0:Int) else 4)=0:=if_pos hf
   rw [e1,if_pos (Or.inr hf)]
  ·have e1:(if ((aj (ax S o.j):Nat):Int)+1≤o.m 1 then (0:Int) else 4)=4:=if_neg hf
   rw [e1,if_neg (fun z=>Or.elim z hy hf)]
theorem KX.tabs (h:KX w m H S U q A) (ho:S.O p=some o):(∀z∈ax S o.j,0≤z.1∧(z.1=0→z.2=false))∧wC S.D (ax S o.j)∧∀i (hi:i<(ax S o.j).length),0<(ax S o.j)[i].1→∃c:Nat,S.D.R (ax S o.j)[i].1=some (c:Int)∧0<c:=by
 have hj:=h.qx ho
 have e:=iM hj
 rw [e]
 refine ⟨(h.inv.tab _ (List.getElem_mem hj)).2,h.inv.H6 hj,fun i hi h0=>?_⟩
 have hp:=eU hj hi
 exact ⟨_,by rw [h.inv.core.cR _ h0,if_pos hp],hp⟩
theorem KN.Pd (h:KN w m H S q A) (ho:S.O p=some o) (hq:q≤200) (x y9:Int) :
 Calls Tryz.prog 109 #[wp H.kb,.int .i64 p,.int .i64 x,.int .i64 y9] w fun y w'=>y=.returned (aJ (lT S o x y9))∧∃A',KN w' m H (iB S o x y9) q A'∧Stp w w' A A':=by
 have hj:=h.1.qx ho
 have h8:=h.1.sV o.j
 have hpay:∀(W:World) (xk xh xn xt:Nat),Below w.heap.size w W→pX W A [(xk,wp H.kb),(xh,wp (H.hs o.j)),(xn,.int .i64 x),(xt,.int .i64 y9)]→
  Calls Tryz.prog 125 #[wp (H.hs o.j),.int .i64 1,.int .i64 (oG (ax S o.j) y9),.func (.func 207) #[] #[wp xk,wp xh,wp xn,wp xt],.func (.func 209) #[] #[wp xk,wp xh,wp xt]] W fun y w'=>∃c,y=.returned (aJ c)∧c=lT S o x y9∧∃A',KN w' m H (iB S o x y9) q A'∧Stp w w' A A':=fun W xk xh xn xt bW bx=>by
  have hW:=h.1.below bW
  refine xP (H.hs o.j) 1 (oG (ax S o.j) y9) (fun args w=>by kernel_rfl) (fun args w=>by kernel_rfl) (R:=fun c w'=>c=lT S o x y9∧∃A',KN w' m H (iB S o x y9) q A'∧Stp w w' A A') ((hW.X6 ho hq x y9 bx).mono ?_)
  rintro y w1 ⟨rfl,A1,h1,st1⟩
  refine ⟨_,rfl,fun hc=>?_,fun hc=>?_⟩
  ·have e1:lT S o x y9=eu (ax S o.j) x y9:=if_pos hc
   have e2:iB S o x y9=S:=by unfold iB;rw [e1,if_neg hc]
   obtain ⟨d1,d2⟩:=rT (D:=S.D) hc
   rw [d1,d2,nQ hj] at h1
   rw [e1,e2]
   exact ⟨rfl,A1,⟨h1,h.2⟩,st1.after bW⟩
  ·have ew:=NG (S:=S) (o:=o) h8 hc
   refine ⟨why (jX S o.j) o.m 1 (oG (ax S o.j) y9),((h1.hd (p:=p) (o:=o) ho).Bg (h.1.Fu o.j) (h.2.fit p o ho).1 1 (oG (ax S o.j) y9) h1.er (h1.hne (p:=p) (o:=o) ho)).mono ?_⟩
   rintro y w2 ⟨rfl,hd2,g2⟩
   obtain ⟨A2,h2,st2⟩:=h1.led (p:=p) (o:=o) ho hd2 g2
   have ME:Stp w w2 A A2:=(st1.after bW).trans st2
   refine ⟨rfl,fun hz=>?_,fun hz=>?_⟩
   ·have e2:iB S o x y9=S.files (eB S.D (ax S o.j) x y9) o.j (ek (ax S o.j) x y9):=by unfold iB;rw [←ew,if_pos hz]
    rw [←ew,e2]
    have hu:((aj (ek (ax S o.j) x y9):Nat):Int)=aj (ax S o.j)+oG (ax S o.j) y9:=by
     rw [JO h8]
     unfold oG
     by_cases hy:aH (ax S o.j) y9=true
     ·rw [if_pos hy,if_neg (by rw [hy];simp)];rfl
     ·rw [if_neg hy,if_pos ⟨hc,by simpa using hy⟩];rfl
    refine ⟨hz.symm,A2,h2.toN (h.2.files ho _ _) (fun p' o' ho' k hk=>?_),ME⟩
    have:=xO (S:=S) (o:=o) (D':=eB S.D (ax S o.j) x y9) hj hu o'.j k hk
    rw [←this]
    unfold Fh Mo
    rw [if_pos hz]
   ·have e2:iB S o x y9=S:=by unfold iB;rw [←ew,if_neg hz]
    have hy:aH (ax S o.j) y9=false:=by
     cases hyy:aH (ax S o.j) y9 with
     |false=>rfl
     |true=>
      exfalso
      apply hz
      rw [ew]
      unfold lT
      rw [if_neg (not_not_intro hc),if_pos (.inl hyy)]
    have CE:KX w2 m H (S.files (eB S.D (ax S o.j) x y9) o.j (ek (ax S o.j) x y9)) (jX S) q A2:=h2.FK (fun p' o' ho' k hk=>by
     by_cases ej:o'.j=o.j
     ·simp only [if_pos ej]
      unfold Mo
      rw [if_neg hz,ej]
     ·simp only [if_neg ej])
    have Zv:pX w2 A2 [(xk,wp H.kb),(xh,wp (H.hs o.j)),(xt,.int .i64 y9)]:=fun y hy=>((bx.oo st1).oo st2) y (by simp at hy ⊢;rcases hy with z|z|z<;>simp [z])
    refine (CE.X5 (p:=p) (o:=o) ho hq y9 Zv).mono ?_
    rintro y w3 ⟨rfl,A3,h3,vT⟩
    obtain ⟨t1,t2,t3⟩:=h.1.tabs ho
    obtain ⟨u1,u2,u3⟩:=Lv h8 t1 t2 t3 hc hy
    have et:ax (S.files (eB S.D (ax S o.j) x y9) o.j (ek (ax S o.j) x y9)) o.j=ek (ax S o.j) x y9:=by rw [fD hj,if_pos rfl]
    rw [EP,et] at h3
    have ed:(S.files (eB S.D (ax S o.j) x y9) o.j (ek (ax S o.j) x y9)).D=eB S.D (ax S o.j) x y9:=rfl
    rw [ed,u1,u2,nQ hj] at h3
    rw [←ew,e2]
    exact ⟨_,rfl,rfl,A3,⟨h3,h.2⟩,ME.trans vT⟩
 have hF:=fun W (hb:Below w.heap.size w W)=>(h.1.below hb).aC ho
 have hH:∀(W:World) (xk xh xn xt:Nat),Below w.heap.size w W→pX W A [(xk,wp H.kb),(xh,wp (H.hs o.j)),(xn,.int .i64 x),(xt,.int .i64 y9)]→(W.cell? ⟨xk,0,none⟩=some (wp H.kb)∧W.cell? ⟨H.kb,2,none⟩=some (wp H.f)∧W.cell? ⟨xh,0,none⟩=some (wp (H.hs o.j))∧W.cell? ⟨H.hs o.j,1,none⟩=some (wp (H.tb o.j))∧W.cell? ⟨xt,0,none⟩=some (.int .i64 y9))∧Calls Tryz.prog 206 #[wp H.f,wp (H.tb o.j),.int .i64 y9] W.drew fun y w'=>y=.returned (.bool (aH (ax S o.j) y9))∧(w'.cell? ⟨xk,0,none⟩=some (wp H.kb)∧w'.cell? ⟨H.kb,2,none⟩=some (wp H.f)∧w'.cell? ⟨xh,0,none⟩=some (wp (H.hs o.j))∧w'.cell? ⟨H.hs o.j,1,none⟩=some (wp (H.tb o.j))∧w'.cell? ⟨xt,0,none⟩=some (.int .i64 y9))∧Below w.heap.size w w'∧pX w' A [(xk,wp H.kb),(xh,wp (H.hs o.j)),(xn,.int .i64 x),(xt,.int .i64 y9)]:=fun W xk xh xn xt bW bx=>by
  have kW:=h.1.below bW
  refine ⟨⟨(bx (xk,_) (by simp)).1,kW.c2,(bx (xh,_) (by simp)).1,(kW.hd ho).at 1,(bx (xt,_) (by simp)).1⟩,((kW.below (bJ W)).lW hj y9).mono ?_⟩
  rintro y w' ⟨rfl,b9⟩
  have b:Below W.heap.size W w':=(bJ W).trans b9
  have bx':=bx.below b
  have k':=kW.below b
  exact ⟨rfl,⟨(bx' (xk,_) (by simp)).1,k'.c2,(bx' (xh,_) (by simp)).1,(k'.hd ho).at 1,(bx' (xt,_) (by simp)).1⟩,bW.trans (b.mono bW.size),bx'⟩
 have hA:=h.1.lt
 generalize lT S o x y9=E at *
 generalize iB S o x y9=S2 at *
 have TY:aH (ax S o.j) y9=true→oG (ax S o.j) y9=0:=fun z=>if_pos z
 have Ny:aH (ax S o.j) y9=false→oG (ax S o.j) y9=1:=fun z=>if_neg (by rw [z];simp)
 generalize oG (ax S o.j) y9=C at *
 generalize aH (ax S o.j) y9=hb at *
 have HP:Aside _:=hpay
 have HF:Aside _:=hF
 have HH:Aside _:=hH
 have Jp:Aside _:=TY
 have ZI:Aside _:=Ny
 clear h ho hpay hF hH TY Ny hj h8 hq
 go_enter Tryz.func109,Tryz.ntmps109
 go_upto_region 1 with fail
 obtain ⟨b3,s3,c1,c2,c3⟩:=yJ w (wp H.kb) (.int .i64 x) (.int .i64 y9) 25 3 3
 generalize ((w.alloc (.cells #[wp H.kb] 25)).alloc (.cells #[.int .i64 x] 3)).alloc (.cells #[.int .i64 y9] 3)=W at *
 have hF:=HF.out W b3
 clear HF
 go_upto_region 5 with (go_at_call 51;refine hF.mono ?_;rintro e w1 ⟨rfl,hw⟩;subst w1)
 obtain ⟨b4,s4,c4,_⟩:=ik W (wp (H.hs o.j)) 99
 rw [s3] at c4
 have d1:=aZ b4 c1
 have d2:=aZ b4 c2
 have d3:=aZ b4 c3
 generalize W.alloc (.cells #[wp (H.hs o.j)] 99)=V at *
 have bV:Below w.heap.size w V:=b3.trans (b4.mono b3.size)
 have bx:pX V A [(w.heap.size,wp H.kb),(w.heap.size+1+1+1,wp (H.hs o.j)),(w.heap.size+1,.int .i64 x),(w.heap.size+1+1,.int .i64 y9)]:=fun y hy=>by
  have hn:∀i,w.heap.size≤i→¬A i:=fun i hi z=>by have:=hA i z;omega
  simp only [List.mem_cons,List.not_mem_nil,or_false] at hy
  rcases hy with rfl|rfl|rfl|rfl
  ·exact ⟨d1,hn _ (Nat.le_refl _)⟩
  ·exact ⟨c4,hn _ (by omega)⟩
  ·exact ⟨d2,hn _ (by omega)⟩
  ·exact ⟨d3,hn _ (by omega)⟩
 obtain ⟨c0,hH⟩:=HH.out V _ _ _ _ bV bx
 clear HH c1 c2 c3 hF b3 b4 bV s3 s4 d1 d2 d3 bx c4
 go_region_held3 (fun w'=>w'.cell? ⟨w.heap.size,0,none⟩=some (wp H.kb)∧w'.cell? ⟨H.kb,2,none⟩=some (wp H.f)∧w'.cell? ⟨w.heap.size+1+1+1,0,none⟩=some (wp (H.hs o.j))∧w'.cell? ⟨H.hs o.j,1,none⟩=some (wp (H.tb o.j))∧w'.cell? ⟨w.heap.size+1+1,0,none⟩=some (.int .i64 y9)) (first|exact c0|exact c9) (first
  |(go_at_call 206;refine hH.mono ?_;rintro e w5 ⟨rfl,c9,b5,bx5⟩))
 all_goals
  have hP:=HP.out w5 _ _ _ _ b5 bx5
  have c5:=c9.2.2.1
  clear HP c0 hH bx5 c9 b5
  cases hb with
  |true=>
   have hC:=Jp.out rfl
   subst hC
   clear Jp ZI
   go_wp2_with (go_at_call 125;refine hP.mono ?_;rintro e w6 ⟨c,rfl,hc,hR⟩)
   go_ret
   exact ⟨by rw [←hc];rfl,hR⟩
  |false=>
   have hC:=ZI.out rfl
   subst hC
   clear Jp ZI
   go_wp2_with (go_at_call 125;refine hP.mono ?_;rintro e w6 ⟨c,rfl,hc,hR⟩)
   go_ret
   exact ⟨by rw [←hc];rfl,hR⟩
end
section
variable {w w':World}{m:Int}{H:KH}{S:KS}{U:Nat→Nat→Int}{q:Nat}{A:Nat→Prop}{p:Int}{o:Ow}
theorem KX.Vy (h:KX w m H S U q A) (ho:S.O p=none) (hp:(Lit.int .i64 p).wf=true) (x y z:Int) :
 Calls Tryz.prog 45 #[wp H.kb,.int .i64 p,.int .i64 x,.int .i64 y,.int .i64 z] w fun y w'=>y=.returned (eX 7)∧Below w.heap.size w w':=by
 have hF:=fun W (hb:Below w.heap.size w W)=>(h.below hb).aU ho hp
 have HF:Aside _:=hF
 clear h ho hF
 go_enter Tryz.func45,Tryz.ntmps45
 go_upto_region 1 with fail
 obtain ⟨b3,s3,c1,c2,c3⟩:=yJ w (.int .i64 x) (.int .i64 y) (.int .i64 z) 3 3 3
 have f3:=(ik ((w.alloc (.cells #[.int .i64 x] 3)).alloc (.cells #[.int .i64 y] 3)) (.int .i64 z) 3).2.2.2
 rw [(ry w (.int .i64 x) (.int .i64 y) 3 3).2.1] at f3
 have f2:(((w.alloc (.cells #[.int .i64 x] 3)).alloc (.cells #[.int .i64 y] 3)).alloc (.cells #[.int .i64 z] 3)).frozen? ⟨w.heap.size+1,0,none⟩=false:=by
  have:=(ik (w.alloc (.cells #[.int .i64 x] 3)) (.int .i64 y) 3).2.2.2
  rw [(ik w (.int .i64 x) 3).2.1] at this
  exact dU ((Below.refl _ _).alloc (Nat.le_refl _) _) (by rw [(ry w (.int .i64 x) (.int .i64 y) 3 3).2.1];omega) this
 generalize ((w.alloc (.cells #[.int .i64 x] 3)).alloc (.cells #[.int .i64 y] 3)).alloc (.cells #[.int .i64 z] 3)=W at *
 have hF:=HF.out W b3
 clear HF f2 f3
 go_wp2_with (go_at_call 51;refine hF.mono ?_;rintro e w1 ⟨rfl,hw⟩;subst w1)
 go_ret
 exact ⟨rfl,b3.alloc b3.size _⟩
theorem KX.rT (h:KX w m H S U q A) (ho:S.O p=none) (hp:(Lit.int .i64 p).wf=true) (x y:Int) :
 Calls Tryz.prog 109 #[wp H.kb,.int .i64 p,.int .i64 x,.int .i64 y] w fun y w'=>y=.returned (eX 7)∧Below w.heap.size w w':=by
 have hF:=fun W (hb:Below w.heap.size w W)=>(h.below hb).aU ho hp
 have HF:Aside _:=hF
 clear h ho hF
 go_enter Tryz.func109,Tryz.ntmps109
 go_upto_region 1 with fail
 obtain ⟨b3,s3,c1,c2,c3⟩:=yJ w (wp H.kb) (.int .i64 x) (.int .i64 y) 25 3 3
 have f3:=(ik ((w.alloc (.cells #[wp H.kb] 25)).alloc (.cells #[.int .i64 x] 3)) (.int .i64 y) 3).2.2.2
 rw [(ry w (wp H.kb) (.int .i64 x) 25 3).2.1] at f3
 have f2:(((w.alloc (.cells #[wp H.kb] 25)).alloc (.cells #[.int .i64 x] 3)).alloc (.cells #[.int .i64 y] 3)).frozen? ⟨w.heap.size+1,0,none⟩=false:=by
  have:=(ik (w.alloc (.cells #[wp H.kb] 25)) (.int .i64 x) 3).2.2.2
  rw [(ik w (wp H.kb) 25).2.1] at this
  exact dU ((Below.refl _ _).alloc (Nat.le_refl _) _) (by rw [(ry w (wp H.kb) (.int .i64 x) 25 3).2.1];omega) this
 generalize ((w.alloc (.cells #[wp H.kb] 25)).alloc (.cells #[.int .i64 x] 3)).alloc (.cells #[.int .i64 y] 3)=W at *
 have hF:=HF.out W b3
 clear HF f2 f3
 go_wp2_with (go_at_call 51;refine hF.mono ?_;rintro e w1 ⟨rfl,hw⟩;subst w1)
 go_ret
 exact ⟨rfl,b3.alloc b3.size _⟩
theorem KX.VJ (h:KX w m H S U q A) (ho:S.O p=none) (hp:(Lit.int .i64 p).wf=true) (x:Int) :
 Calls Tryz.prog 108 #[wp H.kb,.int .i64 p,.int .i64 x] w fun y w'=>y=.returned (.tuple #[.int .i64 0,eX 7])∧Below w.heap.size w w':=by
 have hF:=fun W (hb:Below w.heap.size w W)=>(h.below hb).aU ho hp
 have HF:Aside _:=hF
 clear h ho hF
 go_enter Tryz.func108,Tryz.ntmps108
 go_upto_region 1 with fail
 obtain ⟨b3,s3,c1,c2,c3⟩:=yJ w (wp H.kb) (.int .i64 x) (.int .i64 0) 25 3 3
 have f3:=(ik ((w.alloc (.cells #[wp H.kb] 25)).alloc (.cells #[.int .i64 x] 3)) (.int .i64 0) 3).2.2.2
 rw [(ry w (wp H.kb) (.int .i64 x) 25 3).2.1] at f3
 have f2:(((w.alloc (.cells #[wp H.kb] 25)).alloc (.cells #[.int .i64 x] 3)).alloc (.cells #[.int .i64 0] 3)).frozen? ⟨w.heap.size+1,0,none⟩=false:=by
  have:=(ik (w.alloc (.cells #[wp H.kb] 25)) (.int .i64 x) 3).2.2.2
  rw [(ik w (wp H.kb) 25).2.1] at this
  exact dU ((Below.refl _ _).alloc (Nat.le_refl _) _) (by rw [(ry w (wp H.kb) (.int .i64 x) 25 3).2.1];omega) this
 generalize ((w.alloc (.cells #[wp H.kb] 25)).alloc (.cells #[.int .i64 x] 3)).alloc (.cells #[.int .i64 0] 3)=W at *
 have hF:=HF.out W b3
 clear HF
 go_upto_region 3 with (go_at_call 51;refine hF.mono ?_;rintro e w1 ⟨rfl,hw⟩;subst w1)
 obtain ⟨b4,s4,c4,_⟩:=ik W (.pointer none) 99
 have d2:=aZ b4 c2
 have d3:=aZ b4 c3
 have g2:=dU b4 (World.block_lt_of_cell? W _ c2) f2
 have g3:=dU b4 (World.block_lt_of_cell? W _ c3) f3
 generalize W.alloc (.cells #[.pointer none] 99)=V at *
 have bV:Below w.heap.size w V:=b3.trans (b4.mono b3.size)
 have y2:=World.cell?_setCell_same V ⟨w.heap.size+1,0,none⟩ (.int .i64 0) d2
 have y3:=World.cell?_setCell_same V ⟨w.heap.size+1+1,0,none⟩ (.int .i64 0) d3
 have y23:=World.cell?_setCell_same (V.setCell ⟨w.heap.size+1,0,none⟩ (.int .i64 0)) ⟨w.heap.size+1+1,0,none⟩ (.int .i64 0) (jc d3 (by omega) _)
 have Y2:Aside _:=y2
 have Y3:Aside _:=y3
 have Y23:Aside _:=y23
 clear y2 y3 y23
 clear f2 f3 c1 c2 c3 c4 hF b4 s4 s3
 go_wp2_with fail
 refine bodyPost_ret (v:=.tuple #[.int .i64 0,eX 7]) (by simp [results,Tryz.results108,go_sem,Y3.out]) rfl ⟨rfl,?_⟩
 exact ⟨bV.os,bV.tape,bV.output,by simpa [World.setCell] using bV.size,fun i hi=>by rw [Below.heap_setCell _ _ _ _ (fun e=>by simp only at e;omega)];exact bV.block i hi⟩
theorem KX.Bz (h:KX w m H S U q A) (ho:S.O p=none) (hp:(Lit.int .i64 p).wf=true) :
 Calls Tryz.prog 13 #[wp H.kb,.int .i64 p] w fun y w'=>y=.returned (.tuple #[.int .i64 0,.int .i64 0,eX 7])∧Below w.heap.size w w':=by
 have hF:=fun W (hb:Below w.heap.size w W)=>(h.below hb).aU ho hp
 have HF:Aside _:=hF
 clear h ho hF
 go_enter Tryz.func13,Tryz.ntmps13
 go_upto_region 1 with fail
 obtain ⟨b3,s3,c1,c2,c3⟩:=yJ w (wp H.kb) (.int .i64 0) (.int .i64 0) 25 3 3
 have f3:=(ik ((w.alloc (.cells #[wp H.kb] 25)).alloc (.cells #[.int .i64 0] 3)) (.int .i64 0) 3).2.2.2
 rw [(ry w (wp H.kb) (.int .i64 0) 25 3).2.1] at f3
 have f2:(((w.alloc (.cells #[wp H.kb] 25)).alloc (.cells #[.int .i64 0] 3)).alloc (.cells #[.int .i64 0] 3)).frozen? ⟨w.heap.size+1,0,none⟩=false:=by
  have:=(ik (w.alloc (.cells #[wp H.kb] 25)) (.int .i64 0) 3).2.2.2
  rw [(ik w (wp H.kb) 25).2.1] at this
  exact dU ((Below.refl _ _).alloc (Nat.le_refl _) _) (by rw [(ry w (wp H.kb) (.int .i64 0) 25 3).2.1];omega) this
 generalize ((w.alloc (.cells #[wp H.kb] 25)).alloc (.cells #[.int .i64 0] 3)).alloc (.cells #[.int .i64 0] 3)=W at *
 have hF:=HF.out W b3
 clear HF
 go_upto_region 3 with (go_at_call 51;refine hF.mono ?_;rintro e w1 ⟨rfl,hw⟩;subst w1)
 obtain ⟨b4,s4,c4,_⟩:=ik W (.pointer none) 99
 have d2:=aZ b4 c2
 have d3:=aZ b4 c3
 have g2:=dU b4 (World.block_lt_of_cell? W _ c2) f2
 have g3:=dU b4 (World.block_lt_of_cell? W _ c3) f3
 generalize W.alloc (.cells #[.pointer none] 99)=V at *
 have bV:Below w.heap.size w V:=b3.trans (b4.mono b3.size)
 have y2:=World.cell?_setCell_same V ⟨w.heap.size+1,0,none⟩ (.int .i64 0) d2
 have y3:=World.cell?_setCell_same V ⟨w.heap.size+1+1,0,none⟩ (.int .i64 0) d3
 have y23:=World.cell?_setCell_same (V.setCell ⟨w.heap.size+1,0,none⟩ (.int .i64 0)) ⟨w.heap.size+1+1,0,none⟩ (.int .i64 0) (jc d3 (by omega) _)
 have Y2:Aside _:=y2
 have Y3:Aside _:=y3
 have Y23:Aside _:=y23
 clear y2 y3 y23
 clear f2 f3 c1 c2 c3 c4 hF b4 s4 s3
 go_wp2_with fail
 refine bodyPost_ret (v:=.tuple #[.int .i64 0,.int .i64 0,eX 7]) (by simp [results,Tryz.results13,go_sem,Y2.out,Y23.out]) rfl ⟨rfl,?_⟩
 exact ⟨bV.os,bV.tape,bV.output,by simpa [World.setCell] using bV.size,fun i hi=>by rw [Below.heap_setCell _ _ _ _ (fun e=>by simp only at e;omega),Below.heap_setCell _ _ _ _ (fun e=>by simp only at e;omega)];exact bV.block i hi⟩
end
section
variable {w:World}{m:Int}{H:KH}{S:KS}{U:Nat→Nat→Int}{q:Nat}{A:Nat→Prop}{p:Int}
theorem KX.Sj (h:KX w m H S U q A) (ho:S.O p=none) (hp:(Lit.int .i64 p).wf=true) (path:List UInt8) (pr:Int) (mk:Bool) :
 Calls Tryz.prog 107 #[wp H.kb,.int .i64 p,tx path,.int .i64 pr,.bool mk] w fun y w'=>y=.returned (.tuple #[.int .i64 0,eX 7])∧Below w.heap.size w w':=by
 have hF:=fun W (hb:Below w.heap.size w W)=>(h.below hb).aU ho hp
 have HF:Aside _:=hF
 clear h ho hF
 go_enter Tryz.func107,Tryz.ntmps107
 go_upto_region 1 with fail
 obtain ⟨b3,s3,c1,c2,c3⟩:=yJ w (wp H.kb) (tx path) (.int .i64 pr) 25 9 3
 generalize ((w.alloc (.cells #[wp H.kb] 25)).alloc (.cells #[tx path] 9)).alloc (.cells #[.int .i64 pr] 3)=W3 at *
 obtain ⟨b5,s5,c4,c5⟩:=ry W3 (.bool mk) (.int .i64 0) 4 3
 have f5:=(ik (W3.alloc (.cells #[.bool mk] 4)) (.int .i64 0) 3).2.2.2
 rw [(ik W3 (.bool mk) 4).2.1] at f5
 rw [s3] at s5 c4 c5 f5
 have c1':=aZ b5 c1
 generalize (W3.alloc (.cells #[.bool mk] 4)).alloc (.cells #[.int .i64 0] 3)=W at *
 have bW:Below w.heap.size w W:=b3.trans (b5.mono b3.size)
 have hF:=HF.out W bW
 clear HF c1 c2 c3 c4
 go_upto_region 3 with (go_at_call 51;refine hF.mono ?_;rintro e w1 ⟨rfl,hw⟩;subst w1)
 obtain ⟨b6,s6,c6,_⟩:=ik W (.pointer none) 99
 have d5:=aZ b6 c5
 have f6:=dU b6 (World.block_lt_of_cell? W _ c5) f5
 generalize W.alloc (.cells #[.pointer none] 99)=V at *
 have bV:Below w.heap.size w V:=bW.trans (b6.mono bW.size)
 have y5:=World.cell?_setCell_same V ⟨w.heap.size+1+1+1+1,0,none⟩ (.int .i64 0) d5
 have Y5:Aside _:=y5
 clear y5 f5 c1' c5 c6 hF b6 s6 s5 s3 b3 b5 bW
 go_wp2_with fail
 refine bodyPost_ret (v:=.tuple #[.int .i64 0,eX 7]) (by simp [results,Tryz.results107,go_sem,Y5.out]) rfl ⟨rfl,?_⟩
 exact ⟨bV.os,bV.tape,bV.output,by simpa [World.setCell] using bV.size,fun i hi=>by rw [Below.heap_setCell _ _ _ _ (fun e=>by simp only at e;omega)];exact bV.block i hi⟩
end
end Go.Proofs.YtcfhanoekniaaaaGreatDoor
namespace Go.Proofs.YtcfhanoekniaaaaGreatDoor
open Go.RowKit Go.Shelf Go.Lib Go.Sort Go.Maps
theorem JL {t t':Int→Nat}{n f:Nat}(hf:f<n) (h0:t (f:Int)=0) (h1:t' (f:Int)≠0) (ho:∀x:Int,0≤x→x≠(f:Int)→(t x=0↔t' x=0)):used t' n=used t n+1:=by
 rw [Ie,Ie]
 refine fF (f:=f) (d:=1) (by simp [h0,h1]) (fun i hi=>?_) n 0 (by omega) (by omega)
 have:=ho i (by omega) (by omega)
 by_cases e:t (i:Int)=0
 ·rw [if_pos e,if_pos (this.1 e)]
 ·rw [if_neg e,if_neg (fun e'=>e (this.2 e'))]
def P1:PM:=fC (fun _=>none) 0 2 3
theorem XB:P1 0=some (3,-1):=by unfold P1 fC;rfl
theorem FN (x:Int):cB P1 x=-1:=by
 have:P1 x=some (3,-1)∨P1 x=none:=by
  unfold P1 fC;by_cases h:0≤x∧x<0+((2:Nat):Int)
  ·exact .inl (if_pos h)
  ·exact .inr (if_neg h)
 rcases this with h|h
 ·rw [kH h]
 ·exact mO h
theorem M5 {f:Int}(hf:0≤f):sh P1 f=0:=Br hf (fun a=>by rw [FN];omega)
theorem Yd {f z:Int}(_hf:0≤f) (hz:0≤z):sh (bU P1 0 (3,f)) z=if f=z then 1 else 0:=by
 have h:=wG (P:=P1) (a:=0) (by omega) (by omega) (3,f) z
 rw [M5 hz,FN,if_neg (by omega)] at h
 simpa using h
theorem Ye:(pg P1 0).1=3:=by unfold pg;rw [XB];rfl
theorem XA (f:Int):bU P1 0 (3,f) 0=some (3,f):=by unfold bU;rw [if_pos rfl]
theorem Nb {P:PM}{f:Int}(h:P 0=some (3,f)):eP P 0 1 2=0∧eP P 0 1 1=0:=by unfold eP;rw [h];exact ⟨by simp,by simp⟩
end Go.Proofs.YtcfhanoekniaaaaGreatDoor
namespace Go.Proofs.YtcfhanoekniaaaaGreatDoor
open Go.RowKit Go.Maps
section
variable {w w1 w2:World}{m:Int}{A A':Nat→Prop}
theorem Stp.toBelow (hb:Below w.heap.size w w1) (hA:∀i,A i→w.heap.size≤i) (st:Stp w1 w2 A A'):Below w.heap.size w w2:=
 ⟨st.wt.os.trans hb.os,st.wt.tape.trans hb.tape,st.wt.output.trans hb.output,Nat.le_trans hb.size st.wt.size,fun i hi=>by
  rw [st.wt.block i (Nat.lt_of_lt_of_le hi hb.size) (fun z=>by have:=hA i z;omega)]
  exact hb.block i hi⟩
theorem uW:ay fo=2:=jd ⟨by omega,by unfold fo;rw [if_neg (by omega)],fun j h1 h2=>by
 have:j=1:=by omega
 subst this;rfl⟩ (by omega)
theorem Gg:(af fo).length=1:=by decide
abbrev o1:Ow:=⟨0,firstM,0⟩
abbrev o2:Ow:=⟨1,firstM,0⟩
noncomputable def uK:KS:=dx (iA 4) 1 o1
theorem MZ:uK.O 2=some o2:=by
 show iX (iA 4).O (ay fo) ⟨1,firstM,0⟩ 2=_
 rw [uW];rfl
theorem DT:oC uK o2 0 2 3=0:=by
 have e:aK uK 1=jW:=rfl
 have e1:iY jW 0 2 3=0:=by decide +kernel
 unfold oC
 rw [e,if_neg (not_not_intro e1),if_pos]
 rw [show bN jW=0 from pO]
 decide
noncomputable def bO:KS:=jy uK o2 0 2 3
theorem mY:bO=uK.space 1 P1 uK.W:=by
 unfold bO jy
 rw [if_pos DT]
 have e:aK uK 1=jW:=rfl
 have e1:iY jW 0 2 3=0:=by decide +kernel
 have yG:kY jW 0 2 3=P1:=by unfold kY;rw [if_pos e1];rfl
 rw [e,yG]
theorem BH:bO.Ms=[jW,P1]:=by rw [mY];rfl
theorem Uy {x:Int}(hx:0≤x) (P:PM):jq [jW,P] x=sh P x:=by
 unfold jq
 simp only [List.map_cons,List.map_nil,List.sum_cons,List.sum_nil]
 rw [show sh jW x=0 from oM hx];omega
theorem Gr {went:List Int}{er:Int}{S':KS}(h:fM 2 0 1 5 bO went er S'):went=[]∧er=0∧∃f:Nat,f<4∧∃D2:Nat→Nat→Int,D2 f 1=5∧S'=bO.space 1 (bU P1 0 (3,(f:Int))) D2:=by
 have hO:bO.O 2=some o2:=by rw [mY];exact MZ
 have hm:aK bO 1=P1:=by unfold aK;rw [BH];rfl
 have ht:∀x,0≤x→jq bO.Ms x=0:=fun x hx=>by rw [BH,Uy hx,M5 hx]
 have hn:bO.n=4:=by rw [mY];rfl
 have hz:∀x,0≤x→sh P1 x+nk bO 1 x=0:=fun x hx=>by
  unfold nk;rw [ht x hx,M5 hx,Nat.zero_sub]
 have hs:∀ {er P' D'},yF bO.n (aK bO 1) (nk bO 1) bO.W 0 1 5 er P' D'→∃f:Nat,f<4∧er=0∧P'=bU P1 0 (3,(f:Int))∧D' f 1=5:=fun {er P' D'} hr=>by
  rw [hm,hn] at hr
  rcases hr with ⟨h,_⟩|⟨_,h,_⟩|⟨_,_,h,_⟩|⟨_,_,f,hf1,hf2,h4,h5,h6⟩
  ·exact absurd (Nb XB).1 h
  ·exact absurd (FN 0) h
  ·exfalso
   rw [qI (t':=fun _=>0) hz,tY] at h;omega
  ·exact ⟨f,hf1,h4,by rw [h5,Ye],by rw [h6];simp [upd]⟩
 cases h with
 |done ho hr h12=>
  rw [hO] at ho
  cases ho
  obtain ⟨f,h1,rfl,rfl,h4⟩:=hs hr
  exact ⟨rfl,rfl,f,h1,_,h4,rfl⟩
 |nobody ho hr hv=>
  rw [hO] at ho
  cases ho
  obtain ⟨f,h1,h2,_⟩:=hs hr
  omega
 |self ho hr hv he=>
  rw [hO] at ho
  cases ho
  obtain ⟨f,h1,h2,_⟩:=hs hr
  omega
 |goes ho hr=>
  rw [hO] at ho
  cases ho
  obtain ⟨f,h1,h2,_⟩:=hs hr
  omega
theorem OU {f:Nat}(hf:f<4) {S:KS}(hn:S.n=4) (hM:S.Ms=[jW,bU P1 0 (3,(f:Int))]):S.n-used (jq S.Ms) S.n=3:=by
 rw [hn]
 have h0:used (fun _=>0) 4=0:=tY 4
 have hf0:(0:Int)≤(f:Int):=by omega
 have ht:∀x,0≤x→jq S.Ms x=if (f:Int)=x then 1 else 0:=fun x hx=>by rw [hM,Uy hx,Yd hf0 hx]
 rw [JL (t:=fun _=>0) hf rfl (by rw [ht _ hf0,if_pos rfl];decide) (fun x hx hne=>by rw [ht x hx,if_neg (fun h=>hne h.symm)]),h0]
theorem OV {S:KS}(hn:S.n=4) (hM:S.Ms=[jW,jW]):S.n-used (jq S.Ms) S.n=4:=by
 rw [hn,qI (t':=fun _=>0) (fun x hx=>by rw [hM,Uy hx];exact oM hx),tY]
theorem Gs {ok:Bool}(w:World) (hm:w.cell? ⟨4,0,none⟩=some (.int .i64 m)) (he:w.cell? ⟨0,0,none⟩=some fJ) (ht:vB ok w) :
 Calls Tryz.prog 12 #[.int .i64 4] w fun y w1=>∃kb,y=.returned (.tuple #[wp kb,.nilIface])∧Calls Tryz.prog 14 #[wp kb,.int .i64 1] w1 fun y w2=>y=.returned (.tuple #[.int .i64 2,.nilIface])∧Calls Tryz.prog 45 #[wp kb,.int .i64 2,.int .i64 0,.int .i64 2,.int .i64 3] w2 fun y w3=>y=.returned .nilIface∧Calls Tryz.prog 42 #[wp kb,.int .i64 2,.int .i64 0,.int .i64 1,.int .i64 5] w3 fun y w4=>∃ad cap,y=.returned (.tuple #[.slice ad 0 cap,.nilIface])∧Calls Tryz.prog 44 #[wp kb,.int .i64 2,.int .i64 0,.int .i64 1] w4 fun y w5=>y=.returned (.tuple #[.int .i64 5,.nilIface])∧Calls Tryz.prog 39 #[wp kb] w5 fun y w6=>y=.returned (.int .i64 3)∧Calls Tryz.prog 20 #[wp kb,.int .i64 2,.int .i64 0] w6 fun y w7=>y=.returned .nilIface∧Calls Tryz.prog 39 #[wp kb] w7 fun y w8=>y=.returned (.int .i64 4)∧Below w.heap.size w w8:=by
 refine (sH w 4 (by omega) (by omega) hm he ht).mono ?_
 rintro y w1 ⟨H,A,rfl,k1,hA,b1,_⟩
 refine ⟨H.kb,rfl,(k1.BN (p:=1) (o:=o1) rfl (by omega) (by show (af fo).length<24;rw [Gg];omega)).mono ?_⟩
 rintro y w2 ⟨rfl,H',A2,⟨hkb,_⟩,k2,st2⟩
 have e2:ay (iA 4).P=2:=uW
 rw [e2,←hkb]
 have k2:KN w2 m H' uK 1 A2:=k2
 refine ⟨rfl,(k2.II MZ 0 2 3 (by omega)).mono ?_⟩
 rintro y w3 ⟨rfl,A3,k3,vT⟩
 rw [DT,aD]
 have k3:KN w3 m H' bO 1 A3:=k3
 have hO:bO.O 2=some o2:=by rw [mY];exact MZ
 refine ⟨rfl,(k3.zy hO (by omega) 0 1 5 (by kernel_rfl)).mono ?_⟩
 rintro y w4 ⟨vw,er,rfl,went,S',A4,hS,hw,k4,Wi⟩
 obtain ⟨rfl,rfl,f,hf,D2,hD,rfl⟩:=Gr hS
 obtain ⟨ad,cap,rfl⟩:∃ad cap,vw=.slice ad 0 cap:=by
  rcases hw.row.2 with ⟨e,_⟩|⟨g,cap,cur,e,_⟩
  ·exact ⟨none,0,e⟩
  ·exact ⟨_,cap,e⟩
 have hms:(bO.space 1 (bU P1 0 (3,(f:Int))) D2).Ms=[jW,bU P1 0 (3,(f:Int))]:=by
  show bO.Ms.set 1 _=_
  rw [BH];rfl
 have hn4:(bO.space 1 (bU P1 0 (3,(f:Int))) D2).n=4:=by
  show bO.n=4
  rw [mY];rfl
 have WN:aK (bO.space 1 (bU P1 0 (3,(f:Int))) D2) 1=bU P1 0 (3,(f:Int)):=by unfold aK;rw [hms];rfl
 have hL:=k4.1.DJ (p:=2) (o:=o2) hO 0 1 (by kernel_rfl)
 have hu:=(Nb (XA (f:Int))).2
 have hv:fV (aK (bO.space 1 (bU P1 0 (3,(f:Int))) D2) o2.j) (bO.space 1 (bU P1 0 (3,(f:Int))) D2).W 0 1=5:=by
  show fV (aK (bO.space 1 (bU P1 0 (3,(f:Int))) D2) 1) D2 0 1=5
  rw [WN]
  unfold fV
  rw [if_pos hu]
  unfold wd
  rw [kH (XA (f:Int)),if_neg (by simp only;omega)]
  simpa using hD
 have hu':eP (aK (bO.space 1 (bU P1 0 (3,(f:Int))) D2) o2.j) 0 1 1=0:=by
  show eP (aK (bO.space 1 (bU P1 0 (3,(f:Int))) D2) 1) 0 1 1=0
  rw [WN];exact hu
 rw [hv,hu',aD] at hL
 refine ⟨ad,cap,rfl,hL.mono ?_⟩
 rintro y w5 ⟨rfl,b5⟩
 have k5:=k4.below b5
 have h3:=k5.1.left
 rw [OU hf hn4 hms] at h3
 refine ⟨rfl,h3.mono ?_⟩
 rintro y w6 ⟨rfl,rfl⟩
 refine ⟨rfl,(k5.xe (p:=2) (o:=o2) hO (by omega) 0).mono ?_⟩
 rintro y w7 ⟨rfl,A7,k7,st7⟩
 have e7:nC (bO.space 1 (bU P1 0 (3,(f:Int))) D2) 2 o2 0=aM (bO.space 1 (bU P1 0 (3,(f:Int))) D2) 2 o2 0:=if_neg (by omega)
 rw [e7] at k7
 have h4:=k7.1.left
 have aab:(aM (bO.space 1 (bU P1 0 (3,(f:Int))) D2) 2 o2 0).Ms=[jW,jW]:=by
  show (bO.space 1 (bU P1 0 (3,(f:Int))) D2).Ms.set 1 jW=_
  rw [hms];rfl
 rw [OV (S:=aM (bO.space 1 (bU P1 0 (3,(f:Int))) D2) 2 o2 0) hn4 aab] at h4
 refine ⟨rfl,h4.mono ?_⟩
 rintro y w8 ⟨rfl,rfl⟩
 exact ⟨rfl,Stp.toBelow b1 hA ((((st2.trans vT).trans Wi).trans (.below b5)).trans st7)⟩
theorem R7 {ok:Bool}(w:World) (hm:w.cell? ⟨4,0,none⟩=some (.int .i64 m)) (he:w.cell? ⟨0,0,none⟩=some fJ) (ht:vB ok w) :
 Calls Tryz.prog 11 #[] w fun e w'=>e=.returned (.bool true)∧Below w.heap.size w w':=by
 have ch:=Gs w hm he ht
 clear hm he ht
 go_enter Tryz.func11,Tryz.ntmps11
 go_wp2_with (first
  |(go_at_call 39;refine c7.mono ?_;rintro e w8 ⟨rfl,hR⟩)
  |(go_at_call 12;refine ch.mono ?_;rintro e w1 ⟨kb,rfl,c1⟩)
  |(go_at_call 14;refine c1.mono ?_;rintro e w2 ⟨rfl,c2⟩)
  |(go_at_call 45;refine c2.mono ?_;rintro e w3 ⟨rfl,c3⟩)
  |(go_at_call 42;refine c3.mono ?_;rintro e w4 ⟨ad,cap,rfl,c4⟩)
  |(go_at_call 44;refine c4.mono ?_;rintro e w5 ⟨rfl,c5⟩)
  |(go_at_call 39;refine c5.mono ?_;rintro e w6 ⟨rfl,c6⟩)
  |(go_at_call 20;refine c6.mono ?_;rintro e w7 ⟨rfl,c7⟩))
 go_ret
 exact ⟨rfl,hR⟩
end
def dT (a b:Int) (B:List UInt8):DS:=⟨iN,fun i=>if i=3 then some ⟨3,2,0,1,0⟩ else if i=2 then some ⟨2,1,0,1,0⟩ else none,fun i=>if i=3 then some b else if i=2 then some a else none,fun i=>if i=1 then some (B,1,1) else none,3⟩
abbrev tA:Ns:=[(2,false),(3,false),(0,false),(0,false),(0,false),(0,false),(0,false),(0,false)]
theorem zt (a:Int) (n:Nat) (h1:1≤n) (h2:n≤1000000):∃r:Nat,r<n∧∀w:World,Calls Tryz.prog 18 #[.int .i64 a,.int .i64 n] w fun e w'=>e=.returned (.int .i64 r)∧w'=w:=by
 have hb:=sD a n (by omega) (by omega)
 obtain ⟨r,hr⟩:∃r:Nat,wrap64 ((IntKind.u64.wrap a).tmod n)=r:=⟨(wrap64 ((IntKind.u64.wrap a).tmod n)).toNat,by omega⟩
 rw [hr] at hb
 refine ⟨r,by omega,fun w=>?_⟩
 go_enter Tryz.func18,Tryz.ntmps18
 go_wp2
 go_ret
 exact ⟨by rw [←hr];rfl,rfl⟩
end Go.Proofs.YtcfhanoekniaaaaGreatDoor

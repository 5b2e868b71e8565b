/- What holds of all that is open, behind names that are made, linked, and named otherwise. -/
import Derived.Test.YtcfhanoekniaaaaGreatDoorDOps
import Derived.Test.YtcfhanoekniaaaaGreatDoorUMkdir
import Derived.Test.YtcfhanoekniaaaaGreatDoorZWrite
import Derived.Test.YtcfhanoekniaaaaGreatDoorZNo
import Derived.Test.YtcfhanoekniaaaaGreatDoorZPipe
import Derived.Test.YtcfhanoekniaaaaGreatDoorWAbs
import Derived.WalkKit
import Derived.Test.YtcfhanoekniaaaaGreatDoorPick
import Derived.Deep.LoopGhost
import Derived.Deep.DeepCutAuto
import Derived.Deep.CutBlock
set_option maxHeartbeats 4000000
set_option maxRecDepth 100000
namespace Go.Proofs.YtcfhanoekniaaaaGreatDoor
open Go.RowKit Go.Maps
theorem UY {T:Wd}{s:Nat}{p:List UInt8}{z:Int}(hT:TrOk T) (hs:di T s) (hM:aZ T s p=0) (hz:gP T z):z<64:=by
 have WG:=(kF hT hM).2.2.2
 have h9:=hs.free (k:=z.toNat) (fun i hi=>hz.least i (by omega) (by have:=hz.pos;omega))
 have:=hz.pos
 omega
section
variable {D:DS}{Ts:List Ns}{k:Nat}
theorem Inv.link (h:Inv D Ts k) (p q:List UInt8):Inv { D with T:=lS D.T p q } Ts (k+1):=h.I6 (h.core.lv.link p q) (h.core.sm.link p q)
theorem Inv.rename (h:Inv D Ts k) (p q:List UInt8):Inv { D with T:=ek D.T p q } Ts (k+1):=h.I6 (h.core.lv.rename p q) (h.core.sm.rename p q)
theorem Inv.make (h:Inv D Ts k) {s:Nat}(hs:di D.T s) {p:List UInt8}(hE:aZ D.T s p=0) {z:Int}(hz:gP D.T z) (dir:Bool):Inv { D with T:=gZ D.T p dir z } Ts (k+1):=
 h.I6 (h.core.lv.make hE hz (UY h.core.lv.toTrOk hs hE hz) dir) (h.core.sm.make p dir z)
end
section
variable {w w' V:World}{m:Int}{H:KH}{S:KS}{U:Nat→Nat→Int}{q:Nat}{A A':Nat→Prop}{p:Int}{o:Ow}{f r k:Nat}{D:DS}{bs:List Nat}{Ts:List Ns}
theorem KD.GK (h:KD w m f r D bs Ts k A) {fn:FuncId}{args:Array Value}{Q:Ending→Wd→Prop}(hI:∀y T',Q y T'→Inv { D with T:=T' } Ts (k+1))
 (hc:∀O,PT w r D.T O→Calls Tryz.prog fn args w fun y w'=>∃T' O',Q y T'∧PT w' r T' O'∧Stp w w' O O') :
 Calls Tryz.prog fn args w fun y w'=>∃T' A',Q y T'∧KD w' m f r { D with T:=T' } bs Ts (k+1) A'∧Stp w w' A A':=by
 obtain ⟨g,n,h1,hr,ht,hA⟩:=h.st
 obtain ⟨O,pt,hO⟩:=h1.tree
 rw [hr] at pt
 refine (hc O pt).mono ?_
 rintro y w' ⟨T',O',hQ,p',st⟩
 rw [←hr] at p'
 obtain ⟨g',a1,a2,a3,a4,_⟩:=h1.turn hO p' st
 have hst:Stp w w' A (fun i=>A i∨(w.heap.size≤i∧i<w'.heap.size)):=⟨st.wt.mono (fun i hi=>hA i (by rw [hO i hi];rfl)),fun i hi=>by
  rcases hi with hi|hi
  ·exact .inl hi
  ·exact .inr hi.1⟩
 refine ⟨T',_,hQ,⟨⟨g',n,a1,a4.trans hr,fun x hx hx'=>?_,fun i hi=>?_⟩,h.len,h.nd,fun b hb=>.inl (h.Po b hb),hI y T' hQ,fun i hi=>?_,(hst.bg h.ml h.mn).1,(hst.bg h.ml h.mn).2,(hst.bg h.er h.en).1,(hst.bg h.er h.en).2⟩,hst⟩
 ·obtain ⟨Mx,tx⟩:=ht x hx hx'
  exact ⟨Mx,tx.Mk (st.wt.block _ tx.tab.lt (fun o=>by have:=hO _ o;rw [tx.off] at this;cases this)) a2 a3⟩
 ·by_cases e1:i<w.heap.size
  ·rw [a2 i e1] at hi;exact .inl (hA i hi)
  ·exact .inr ⟨by omega,a1.lt i hi⟩
 ·rcases hi with hi|hi
  ·exact Nat.lt_of_lt_of_le (h.lt i hi) st.wt.size
  ·exact hi.2
theorem KN.Qo (h:KN w m H S q A) (hq:q≤200) (s:List UInt8) (hs:s.length<100000) :
 Calls Tryz.prog 269 #[wp H.r,tx s] w fun y w'=>y=.returned (aH (dZ S.D.T s))∧∃A',KN w' m H (S.tree (dY S.D.T s)) (q+1) A'∧Stp w w' A A':=by
 refine (h.1.GI (Q:=fun y T'=>y=.returned (aH (dZ S.D.T s))∧T'=dY S.D.T s) (fun bs Ad kd=>kd.GK (fun y T' hQ=>?_) (fun O pt=>?_))).mono ?_
 ·obtain ⟨_,rfl⟩:=hQ;exact kd.inv.unlink s
 ·refine (pt.Ju kd.inv.core.lv s hs m kd.ml (fun i C e=>by have:=kd.inv.core.sm.1 i C e;omega)).mono ?_
  rintro y w' ⟨rfl,p',st⟩
  exact ⟨_,_,⟨rfl,rfl⟩,p',st⟩
 ·rintro y w' ⟨T',⟨rfl,rfl⟩,A',k',st⟩
  exact ⟨rfl,A',k'.GJ h.2,st⟩
theorem KN.qD (h:KN w m H S q A) (ho:S.O p=some o) (hq:q≤200) (s:List UInt8) (hs:s.length<100000) :
 Calls Tryz.prog 193 #[wp H.kb,.int .i64 p,tx s] w fun y w'=>y=.returned (aH (dZ S.D.T s))∧∃A',KN w' m H (S.tree (dY S.D.T s)) (q+1) A'∧Stp w w' A A':=by
 have hF:=h.1.aB ho
 have c1:=h.1.c1
 have hU:=h.Qo hq s hs
 generalize S.tree (dY S.D.T s)=S2 at *
 generalize dZ S.D.T s=E at *
 clear h ho hq
 go_enter Tryz.func193,Tryz.ntmps193
 go_wp2_with (first
  |(go_at_call 51;refine hF.mono ?_;rintro e w1 ⟨rfl,hw⟩;subst w1)
  |(go_at_call 269;refine hU.mono ?_;rintro e w1 ⟨rfl,hR⟩))
 go_ret
 exact ⟨rfl,hR⟩
theorem KN.abl (h:KN w m H S q A) (hq:q≤200) (s u:List UInt8) (hs:s.length<100000) (hu:u.length<100000) :
 Calls Tryz.prog 268 #[wp H.r,tx s,tx u] w fun y w'=>y=.returned (aH (nO S.D.T s u))∧∃A',KN w' m H (S.tree (lS S.D.T s u)) (q+1) A'∧Stp w w' A A':=by
 refine (h.1.GI (Q:=fun y T'=>y=.returned (aH (nO S.D.T s u))∧T'=lS S.D.T s u) (fun bs Ad kd=>kd.GK (fun y T' hQ=>?_) (fun O pt=>?_))).mono ?_
 ·obtain ⟨_,rfl⟩:=hQ;exact kd.inv.link s u
 ·refine (pt.Rn kd.inv.core.lv s u hs hu m kd.ml (fun i C e=>by have:=kd.inv.core.sm.1 i C e;omega)).mono ?_
  rintro y w' ⟨rfl,p',st⟩
  exact ⟨_,_,⟨rfl,rfl⟩,p',st⟩
 ·rintro y w' ⟨T',⟨rfl,rfl⟩,A',k',st⟩
  exact ⟨rfl,A',k'.GJ h.2,st⟩
theorem KN.QA (h:KN w m H S q A) (hq:q≤200) (s u:List UInt8) (hs:s.length<100000) (hu:u.length<100000) :
 Calls Tryz.prog 270 #[wp H.r,tx s,tx u] w fun y w'=>y=.returned (aH (eY S.D.T s u))∧∃A',KN w' m H (S.tree (ek S.D.T s u)) (q+1) A'∧Stp w w' A A':=by
 refine (h.1.GI (Q:=fun y T'=>y=.returned (aH (eY S.D.T s u))∧T'=ek S.D.T s u) (fun bs Ad kd=>kd.GK (fun y T' hQ=>?_) (fun O pt=>?_))).mono ?_
 ·obtain ⟨_,rfl⟩:=hQ;exact kd.inv.rename s u
 ·refine (pt.JP kd.inv.core.lv s u hs hu m kd.ml (fun i C e=>by have:=kd.inv.core.sm.1 i C e;omega)).mono ?_
  rintro y w' ⟨rfl,p',st⟩
  exact ⟨_,_,⟨rfl,rfl⟩,p',st⟩
 ·rintro y w' ⟨T',⟨rfl,rfl⟩,A',k',st⟩
  exact ⟨rfl,A',k'.GJ h.2,st⟩
theorem KN.qE (h:KN w m H S q A) (ho:S.O p=some o) (hq:q≤200) (s u:List UInt8) (hs:s.length<100000) (hu:u.length<100000) :
 Calls Tryz.prog 194 #[wp H.kb,.int .i64 p,tx s,tx u] w fun y w'=>y=.returned (aH (eY S.D.T s u))∧∃A',KN w' m H (S.tree (ek S.D.T s u)) (q+1) A'∧Stp w w' A A':=by
 have hF:=h.1.aB ho
 have c1:=h.1.c1
 have hU:=h.QA hq s u hs hu
 generalize S.tree (ek S.D.T s u)=S2 at *
 generalize eY S.D.T s u=E at *
 clear h ho hq
 go_enter Tryz.func194,Tryz.ntmps194
 go_wp2_with (first
  |(go_at_call 51;refine hF.mono ?_;rintro e w1 ⟨rfl,hw⟩;subst w1)
  |(go_at_call 270;refine hU.mono ?_;rintro e w1 ⟨rfl,hR⟩))
 go_ret
 exact ⟨rfl,hR⟩
def Qe (T:Wd) (s:Nat) (path:List UInt8) (c:Int) (T':Wd):Prop:=(aZ T s path≠0∧c=aZ T s path∧T'=T)∨(aZ T s path=0∧c=0∧∃z,gP T z∧T'=gZ T path true z)
theorem KN.UM (h:KN w m H S q A) (hq:q≤200) {s:Nat}(hs:di S.D.T s) (path:List UInt8) (hp:path.length<100000) :
 Calls Tryz.prog 267 #[wp H.r,tx path] w fun y w'=>∃x c T',y=.returned (.tuple #[.int .i64 x,aH c])∧Qe S.D.T s path c T'∧∃A',KN w' m H (S.tree T') (q+1) A'∧Stp w w' A A':=by
 refine (h.1.GI (Q:=fun y T'=>∃x c,y=.returned (.tuple #[.int .i64 x,aH c])∧Qe S.D.T s path c T') (fun bs Ad kd=>kd.GK (fun y T' hQ=>?_) (fun O pt=>?_))).mono ?_
 ·obtain ⟨x,c,_,hM⟩:=hQ
  rcases hM with ⟨_,_,rfl⟩|⟨hE,_,z,hz,rfl⟩
  ·exact kd.inv.more (by omega)
  ·exact kd.inv.make hs hE hz true
 ·refine (pt.Oa kd.inv.core.lv hs path hp m kd.ml (fun i C e=>by have:=kd.inv.core.sm.1 i C e;omega)).mono ?_
  rintro y w' (⟨hE,rfl,p',st⟩|⟨hE,z,O',hz,h64,rfl,p',st⟩)
  ·exact ⟨_,_,⟨0,aZ S.D.T s path,by rw [az hE],.inl ⟨hE,rfl,rfl⟩⟩,p',st⟩
  ·exact ⟨_,_,⟨z,0,rfl,.inr ⟨hE,rfl,z,hz,rfl⟩⟩,p',st⟩
 ·rintro y w' ⟨T',⟨x,c,rfl,hM⟩,A',k',st⟩
  exact ⟨x,c,T',rfl,hM,A',k'.GJ h.2,st⟩
theorem KN.Kb (h:KN w m H S q A) (ho:S.O p=some o) (hq:q≤200) {s:Nat}(hs:di S.D.T s) (path:List UInt8) (hp:path.length<100000) :
 Calls Tryz.prog 191 #[wp H.kb,.int .i64 p,tx path] w fun y w'=>∃c T',y=.returned (aH c)∧Qe S.D.T s path c T'∧∃A',KN w' m H (S.tree T') (q+1) A'∧Stp w w' A A':=by
 have hF:=h.1.aB ho
 have c1:=h.1.c1
 have hU:=h.UM hq hs path hp
 clear h ho hq hs hp
 go_enter Tryz.func191,Tryz.ntmps191
 go_wp2_with (first
  |(go_at_call 51;refine hF.mono ?_;rintro e w1 ⟨rfl,hw⟩;subst w1)
  |(go_at_call 267;refine hU.mono ?_;rintro e w1 ⟨x,c,T',rfl,hR⟩))
 go_ret
 exact ⟨c,T',rfl,hR⟩
end
section
variable {w w' w1 w2 V:World}{m:Int}{H:KH}{S:KS}{U:Nat→Nat→Int}{q:Nat}{G:KG}{A A' X:Nat→Prop}{p:Int}{o:Ow}
theorem KX.Xz (h:KX w m H S U q A) (ho:S.O p=some o) (hq:q≤200) (x y9:Int) {xk xh xn xt:Nat}(hb:pR w A [(xk,wp H.kb),(xh,wp (H.hs o.j)),(xn,.int .i64 x),(xt,.int .i64 y9)]) :
 Calls Tryz.prog 207 #[wp xk,wp xh,wp xn,wp xt] w fun y w'=>y=.returned (aH (eD (ax S o.j) x y9))∧∃A',KX w' m H (S.files (eO S.D (ax S o.j) x y9) o.j (dV (ax S o.j) x y9)) U q A'∧Stp w w' A A':=by
 have cells:∀ {w':World}{A':Nat→Prop}{S':KS},KX w' m H S' U q A'→S'.O p=some o→pR w' A' [(xk,wp H.kb),(xh,wp (H.hs o.j)),(xn,.int .i64 x),(xt,.int .i64 y9)]→w'.cell? ⟨xk,0,none⟩=some (wp H.kb)∧w'.cell? ⟨H.kb,2,none⟩=some (wp H.f)∧w'.cell? ⟨xh,0,none⟩=some (wp (H.hs o.j))∧w'.cell? ⟨H.hs o.j,1,none⟩=some (wp (H.tb o.j))∧w'.cell? ⟨xn,0,none⟩=some (.int .i64 x)∧w'.cell? ⟨xt,0,none⟩=some (.int .i64 y9):=fun h' ho' b'=>
  ⟨(b' (xk,_) (by simp)).1,h'.c2,(b' (xh,_) (by simp)).1,(h'.hd ho').at 1,(b' (xn,_) (by simp)).1,(b' (xt,_) (by simp)).1⟩
 have c0:=cells h ho hb
 have hM:Calls Tryz.prog 208 #[wp H.f,wp (H.tb o.j),.int .i64 x,.int .i64 y9] w.drew fun y w'=>y=.returned (aH (eD (ax S o.j) x y9))∧(w'.cell? ⟨xk,0,none⟩=some (wp H.kb)∧w'.cell? ⟨H.kb,2,none⟩=some (wp H.f)∧w'.cell? ⟨xh,0,none⟩=some (wp (H.hs o.j))∧w'.cell? ⟨H.hs o.j,1,none⟩=some (wp (H.tb o.j))∧w'.cell? ⟨xn,0,none⟩=some (.int .i64 x)∧w'.cell? ⟨xt,0,none⟩=some (.int .i64 y9))∧∃A',KX w' m H (S.files (eO S.D (ax S o.j) x y9) o.j (dV (ax S o.j) x y9)) U q A'∧Stp w w' A A':=by
  refine ((h.below (bG w)).XA (h.qh ho) hq x y9).mono ?_
  rintro y w' ⟨rfl,A',h',st⟩
  have st':Stp w w' A A':=Stp.base (V:=w.drew) rfl rfl rfl rfl st
  exact ⟨rfl,cells h' ho (hb.nV st'),A',h',st'⟩
 generalize S.files (eO S.D (ax S o.j) x y9) o.j (dV (ax S o.j) x y9)=S2 at *
 generalize (eD (ax S o.j) x y9:Int)=E at *
 clear h ho cells hb hq
 go_enter Tryz.func207,Tryz.ntmps207
 go_upto_region 1 with fail
 go_region_held3 (fun w'=>w'.cell? ⟨xk,0,none⟩=some (wp H.kb)∧w'.cell? ⟨H.kb,2,none⟩=some (wp H.f)∧w'.cell? ⟨xh,0,none⟩=some (wp (H.hs o.j))∧w'.cell? ⟨H.hs o.j,1,none⟩=some (wp (H.tb o.j))∧w'.cell? ⟨xn,0,none⟩=some (.int .i64 x)∧w'.cell? ⟨xt,0,none⟩=some (.int .i64 y9)) (first|exact c0|exact c1) (first
  |(go_at_call 208;refine hM.mono ?_;rintro e w1 ⟨rfl,c1,hR⟩))
 all_goals
  clear c0 c1 hM
  go_wp2_with fail
  go_ret
  exact ⟨rfl,hR⟩
theorem KX.Xy (h:KX w m H S U q A) (ho:S.O p=some o) (hq:q≤200) (y9:Int) {xk xh xt:Nat}(hb:pR w A [(xk,wp H.kb),(xh,wp (H.hs o.j)),(xt,.int .i64 y9)]) :
 Calls Tryz.prog 209 #[wp xk,wp xh,wp xt] w fun y w'=>y=.returned (aH (if aG (ax S o.j) y9=true then 0 else 7))∧∃A',KX w' m H (S.files (gM S.D (ax S o.j) y9) o.j (fO (ax S o.j) y9)) U q A'∧Stp w w' A A':=by
 have cells:∀ {w':World}{A':Nat→Prop}{S':KS},KX w' m H S' U q A'→S'.O p=some o→pR w' A' [(xk,wp H.kb),(xh,wp (H.hs o.j)),(xt,.int .i64 y9)]→w'.cell? ⟨xk,0,none⟩=some (wp H.kb)∧w'.cell? ⟨H.kb,2,none⟩=some (wp H.f)∧w'.cell? ⟨xh,0,none⟩=some (wp (H.hs o.j))∧w'.cell? ⟨H.hs o.j,1,none⟩=some (wp (H.tb o.j))∧w'.cell? ⟨xt,0,none⟩=some (.int .i64 y9):=fun h' ho' b'=>
  ⟨(b' (xk,_) (by simp)).1,h'.c2,(b' (xh,_) (by simp)).1,(h'.hd ho').at 1,(b' (xt,_) (by simp)).1⟩
 have c0:=cells h ho hb
 have hM:Calls Tryz.prog 57 #[wp H.f,wp (H.tb o.j),.int .i64 y9] w.drew fun y w'=>y=.returned (aH (if aG (ax S o.j) y9=true then 0 else 7))∧(w'.cell? ⟨xk,0,none⟩=some (wp H.kb)∧w'.cell? ⟨H.kb,2,none⟩=some (wp H.f)∧w'.cell? ⟨xh,0,none⟩=some (wp (H.hs o.j))∧w'.cell? ⟨H.hs o.j,1,none⟩=some (wp (H.tb o.j))∧w'.cell? ⟨xt,0,none⟩=some (.int .i64 y9))∧∃A',KX w' m H (S.files (gM S.D (ax S o.j) y9) o.j (fO (ax S o.j) y9)) U q A'∧Stp w w' A A':=by
  refine ((h.below (bG w)).Na (h.qh ho) hq y9).mono ?_
  rintro y w' ⟨rfl,A',h',st⟩
  have st':Stp w w' A A':=Stp.base (V:=w.drew) rfl rfl rfl rfl st
  exact ⟨rfl,cells h' ho (hb.nV st'),A',h',st'⟩
 generalize S.files (gM S.D (ax S o.j) y9) o.j (fO (ax S o.j) y9)=S2 at *
 generalize (if aG (ax S o.j) y9=true then 0 else 7:Int)=E at *
 clear h ho cells hb hq
 go_enter Tryz.func209,Tryz.ntmps209
 go_upto_region 1 with fail
 go_region_held3 (fun w'=>w'.cell? ⟨xk,0,none⟩=some (wp H.kb)∧w'.cell? ⟨H.kb,2,none⟩=some (wp H.f)∧w'.cell? ⟨xh,0,none⟩=some (wp (H.hs o.j))∧w'.cell? ⟨H.hs o.j,1,none⟩=some (wp (H.tb o.j))∧w'.cell? ⟨xt,0,none⟩=some (.int .i64 y9)) (first|exact c0|exact c1) (first
  |(go_at_call 57;refine hM.mono ?_;rintro e w1 ⟨rfl,c1,hR⟩))
 all_goals
  clear c0 c1 hM
  go_wp2_with fail
  go_ret
  exact ⟨rfl,hR⟩
theorem KV {N:Ns}{x y:Int}(h:eD N x y=0):aG N x=true∧0≤y∧y≤7:=by
 unfold eD at h
 split at h
 ·rename_i hx
  split at h
  ·rename_i hy;exact ⟨hx,hy⟩
  ·omega
 ·omega
theorem rH {D:DS}{N:Ns}{x y:Int}(h:eD N x y≠0):eO D N x y=D∧dV N x y=N:=⟨if_neg (fun z=>h z.1),if_neg (fun z=>h z.1)⟩
theorem KY {D:DS}{N:Ns}{x y:Int}(h8:N.length=8) (ht:∀z∈N,0≤z.1∧(z.1=0→z.2=false)) (hC:vX D N) (hpos:∀i (hi:i<N.length),0<N[i].1→∃c:Nat,D.R N[i].1=some (c:Int)∧0<c) (h:eD N x y=0) (hy:aG N y=false) :
 gM (eO D N x y) (dV N x y) y=D∧fO (dV N x y) y=N∧aG (dV N x y) y=true:=by
 obtain ⟨hx,y0,y7⟩:=KV h
 obtain ⟨i,rfl,hi,aD,h0⟩:=dL hx h8
 obtain ⟨j,rfl⟩:∃j:Nat,y=j:=⟨y.toNat,by omega⟩
 have sG:j<N.length:=by omega
 have hne:(i:Int)≠j:=fun e=>by
  have:i=j:=by omega
  subst this
  rw [hx] at hy;cases hy
 have hj0:N[j].1=0:=by
  have a:=(ht _ (List.getElem_mem sG)).1
  have:¬0<N[j].1:=fun z=>by
   have:aG N j=true:=by unfold aG;rw [getD_in sG];simp;omega
   rw [this] at hy;cases hy
  omega
 have e1:eO D N i j=iA D N[i].1:=by unfold eO;rw [if_pos ⟨h,hne⟩,getD_in aD,getD_in sG,if_pos hj0]
 have e2:dV N i j=N.set j (N[i].1,false):=by unfold dV;rw [if_pos ⟨h,hne⟩,getD_in aD,Int.toNat_natCast]
 have Yw:j<(N.set j (N[i].1,false)).length:=by rw [List.length_set];exact sG
 have e3:(N.set j (N[i].1,false))[j]=(N[i].1,false):=List.getElem_set_self Yw
 have hh:aG (N.set j (N[i].1,false)) j=true:=by unfold aG;rw [getD_in Yw,e3];simp;omega
 obtain ⟨e,c0,he,hc,_,_⟩:=hC i aD h0
 obtain ⟨c,hcr,hcp⟩:=hpos i aD h0
 rw [e1,e2]
 refine ⟨?_,?_,hh⟩
 ·unfold gM
  rw [if_pos hh,getD_in Yw,e3]
  unfold aQ
  have r1:(iA D N[i].1).E N[i].1=some e:=he
  have r2:(iA D N[i].1).R N[i].1=some ((c:Int)+1):=by
   show (if N[i].1=N[i].1 then some ((D.R N[i].1).getD 0+1) else _)=_
   rw [if_pos rfl,hcr];rfl
  simp only [r1,r2]
  rw [if_pos (by omega)]
  have r3:(fun z=>if z=N[i].1 then some ((c:Int)+1-1) else (iA D N[i].1).R z)=D.R:=by
   funext z
   by_cases ez:z=N[i].1
   ·rw [if_pos ez,ez,hcr];congr 1;omega
   ·rw [if_neg ez]
    show (if z=N[i].1 then _ else D.R z)=D.R z
    rw [if_neg ez]
  rw [r3];rfl
 ·unfold fO
  rw [if_pos hh,Int.toNat_natCast,List.set_set]
  have:N[j]=((0:Int),false):=Prod.ext hj0 ((ht _ (List.getElem_mem sG)).2 hj0)
  rw [←this,List.set_getElem_self]
def lK (S:KS) (o:Ow) (x y:Int):Int:=if eD (ax S o.j) x y≠0 then eD (ax S o.j) x y else if aG (ax S o.j) y=true∨lW S o 1 then 0 else 4
noncomputable def iH (S:KS) (o:Ow) (x y:Int):KS:=if lK S o x y=0 then S.files (eO S.D (ax S o.j) x y) o.j (dV (ax S o.j) x y) else S
def oo (N:Ns) (y:Int):Int:=if aG N y=true then 0 else 1
theorem Ng {S:KS}{o:Ow}{x y:Int}(h8:(ax S o.j).length=8) (hE:eD (ax S o.j) x y=0):why (jM S o.j) o.m 1 (oo (ax S o.j) y)=lK S o x y:=by
 unfold lK
 rw [if_neg (not_not_intro hE)]
 unfold oo
 by_cases hy:aG (ax S o.j) y=true
 ·rw [if_pos hy,if_pos (.inl hy)]
  have e:jM S o.j (1:Int).toNat=((aj (ax S o.j):Nat):Int):=rfl
  unfold why
  rw [e,if_neg (by omega),if_neg (by omega),if_neg (by omega),if_neg (by omega)]
 ·rw [if_neg hy,G7 ⟨by omega,by omega⟩ h8]
  by_cases hf:lW S o 1
  ·have e1:(if ((aj (ax S o.j):Nat):Int)+1≤o.m 1 then (0:Int) else 4)=0:=if_pos hf
   rw [e1,if_pos (Or.inr hf)]
  ·have e1:(if ((aj (ax S o.j):Nat):Int)+1≤o.m 1 then (0:Int) else 4)=4:=if_neg hf
   rw [e1,if_neg (fun z=>Or.elim z hy hf)]
theorem KX.tabs (h:KX w m H S U q A) (ho:S.O p=some o):(∀z∈ax S o.j,0≤z.1∧(z.1=0→z.2=false))∧vX S.D (ax S o.j)∧∀i (hi:i<(ax S o.j).length),0<(ax S o.j)[i].1→∃c:Nat,S.D.R (ax S o.j)[i].1=some (c:Int)∧0<c:=by
 have hj:=h.qh ho
 have e:=iD hj
 rw [e]
 refine ⟨(h.inv.tab _ (List.getElem_mem hj)).2,h.inv.GZ hj,fun i hi h0=>?_⟩
 have hp:=eG hj hi
 exact ⟨_,by rw [h.inv.core.cR _ h0,if_pos hp],hp⟩
theorem KN.OE (h:KN w m H S q A) (ho:S.O p=some o) (hq:q≤200) (x y9:Int) :
 Calls Tryz.prog 109 #[wp H.kb,.int .i64 p,.int .i64 x,.int .i64 y9] w fun y w'=>y=.returned (aH (lK S o x y9))∧∃A',KN w' m H (iH S o x y9) q A'∧Stp w w' A A':=by
 have hj:=h.1.qh ho
 have h8:=h.1.sJ o.j
 have hpay:∀(W:World) (xk xh xn xt:Nat),Below w.heap.size w W→pR W A [(xk,wp H.kb),(xh,wp (H.hs o.j)),(xn,.int .i64 x),(xt,.int .i64 y9)]→
  Calls Tryz.prog 125 #[wp (H.hs o.j),.int .i64 1,.int .i64 (oo (ax S o.j) y9),.func (.func 207) #[] #[wp xk,wp xh,wp xn,wp xt],.func (.func 209) #[] #[wp xk,wp xh,wp xt]] W fun y w'=>∃c,y=.returned (aH c)∧c=lK S o x y9∧∃A',KN w' m H (iH S o x y9) q A'∧Stp w w' A A':=fun W xk xh xn xt bW bx=>by
  have hW:=h.1.below bW
  refine xH (H.hs o.j) 1 (oo (ax S o.j) y9) (fun args w=>by kernel_rfl) (fun args w=>by kernel_rfl) (R:=fun c w'=>c=lK S o x y9∧∃A',KN w' m H (iH S o x y9) q A'∧Stp w w' A A') ((hW.Xz ho hq x y9 bx).mono ?_)
  rintro y w1 ⟨rfl,A1,h1,st1⟩
  refine ⟨_,rfl,fun hc=>?_,fun hc=>?_⟩
  ·have e1:lK S o x y9=eD (ax S o.j) x y9:=if_pos hc
   have e2:iH S o x y9=S:=by unfold iH;rw [e1,if_neg hc]
   obtain ⟨d1,d2⟩:=rH (D:=S.D) hc
   rw [d1,d2,nI hj] at h1
   rw [e1,e2]
   exact ⟨rfl,A1,⟨h1,h.2⟩,st1.after bW⟩
  ·have ew:=Ng (S:=S) (o:=o) h8 hc
   refine ⟨why (jM S o.j) o.m 1 (oo (ax S o.j) y9),((h1.hd (p:=p) (o:=o) ho).AU (h.1.ET o.j) (h.2.fit p o ho).1 1 (oo (ax S o.j) y9) h1.er (h1.hne (p:=p) (o:=o) ho)).mono ?_⟩
   rintro y w2 ⟨rfl,hd2,g2⟩
   obtain ⟨A2,h2,st2⟩:=h1.led (p:=p) (o:=o) ho hd2 g2
   have Ma:Stp w w2 A A2:=(st1.after bW).trans st2
   refine ⟨rfl,fun hz=>?_,fun hz=>?_⟩
   ·have e2:iH S o x y9=S.files (eO S.D (ax S o.j) x y9) o.j (dV (ax S o.j) x y9):=by unfold iH;rw [←ew,if_pos hz]
    rw [←ew,e2]
    have hu:((aj (dV (ax S o.j) x y9):Nat):Int)=aj (ax S o.j)+oo (ax S o.j) y9:=by
     rw [Jp h8]
     unfold oo
     by_cases hy:aG (ax S o.j) y9=true
     ·rw [if_pos hy,if_neg (by rw [hy];simp)];rfl
     ·rw [if_neg hy,if_pos ⟨hc,by simpa using hy⟩];rfl
    refine ⟨hz.symm,A2,h2.toN (h.2.files ho _ _) (fun p' o' ho' k hk=>?_),Ma⟩
    have:=xG (S:=S) (o:=o) (D':=eO S.D (ax S o.j) x y9) hj hu o'.j k hk
    rw [←this]
    unfold EN LU
    rw [if_pos hz]
   ·have e2:iH S o x y9=S:=by unfold iH;rw [←ew,if_neg hz]
    have hy:aG (ax S o.j) y9=false:=by
     cases hyy:aG (ax S o.j) y9 with
     |false=>rfl
     |true=>
      exfalso
      apply hz
      rw [ew]
      unfold lK
      rw [if_neg (not_not_intro hc),if_pos (.inl hyy)]
    have Cn:KX w2 m H (S.files (eO S.D (ax S o.j) x y9) o.j (dV (ax S o.j) x y9)) (jM S) q A2:=h2.Fg (fun p' o' ho' k hk=>by
     by_cases ej:o'.j=o.j
     ·simp only [if_pos ej]
      unfold LU
      rw [if_neg hz,ej]
     ·simp only [if_neg ej])
    have YU:pR w2 A2 [(xk,wp H.kb),(xh,wp (H.hs o.j)),(xt,.int .i64 y9)]:=fun y hy=>((bx.nV st1).nV st2) y (by simp at hy ⊢;rcases hy with z|z|z<;>simp [z])
    refine (Cn.Xy (p:=p) (o:=o) ho hq y9 YU).mono ?_
    rintro y w3 ⟨rfl,A3,h3,vI⟩
    obtain ⟨t1,t2,t3⟩:=h.1.tabs ho
    obtain ⟨u1,u2,u3⟩:=KY h8 t1 t2 t3 hc hy
    have et:ax (S.files (eO S.D (ax S o.j) x y9) o.j (dV (ax S o.j) x y9)) o.j=dV (ax S o.j) x y9:=by rw [fo hj,if_pos rfl]
    rw [Et,et] at h3
    have ed:(S.files (eO S.D (ax S o.j) x y9) o.j (dV (ax S o.j) x y9)).D=eO S.D (ax S o.j) x y9:=rfl
    rw [ed,u1,u2,nI hj] at h3
    rw [←ew,e2]
    exact ⟨_,rfl,rfl,A3,⟨h3,h.2⟩,Ma.trans vI⟩
 have hF:=fun W (hb:Below w.heap.size w W)=>(h.1.below hb).aB ho
 have hH:∀(W:World) (xk xh xn xt:Nat),Below w.heap.size w W→pR W A [(xk,wp H.kb),(xh,wp (H.hs o.j)),(xn,.int .i64 x),(xt,.int .i64 y9)]→(W.cell? ⟨xk,0,none⟩=some (wp H.kb)∧W.cell? ⟨H.kb,2,none⟩=some (wp H.f)∧W.cell? ⟨xh,0,none⟩=some (wp (H.hs o.j))∧W.cell? ⟨H.hs o.j,1,none⟩=some (wp (H.tb o.j))∧W.cell? ⟨xt,0,none⟩=some (.int .i64 y9))∧Calls Tryz.prog 206 #[wp H.f,wp (H.tb o.j),.int .i64 y9] W.drew fun y w'=>y=.returned (.bool (aG (ax S o.j) y9))∧(w'.cell? ⟨xk,0,none⟩=some (wp H.kb)∧w'.cell? ⟨H.kb,2,none⟩=some (wp H.f)∧w'.cell? ⟨xh,0,none⟩=some (wp (H.hs o.j))∧w'.cell? ⟨H.hs o.j,1,none⟩=some (wp (H.tb o.j))∧w'.cell? ⟨xt,0,none⟩=some (.int .i64 y9))∧Below w.heap.size w w'∧pR w' A [(xk,wp H.kb),(xh,wp (H.hs o.j)),(xn,.int .i64 x),(xt,.int .i64 y9)]:=fun W xk xh xn xt bW bx=>by
  have kW:=h.1.below bW
  refine ⟨⟨(bx (xk,_) (by simp)).1,kW.c2,(bx (xh,_) (by simp)).1,(kW.hd ho).at 1,(bx (xt,_) (by simp)).1⟩,((kW.below (bG W)).lM hj y9).mono ?_⟩
  rintro y w' ⟨rfl,b9⟩
  have b:Below W.heap.size W w':=(bG W).trans b9
  have bx':=bx.below b
  have k':=kW.below b
  exact ⟨rfl,⟨(bx' (xk,_) (by simp)).1,k'.c2,(bx' (xh,_) (by simp)).1,(k'.hd ho).at 1,(bx' (xt,_) (by simp)).1⟩,bW.trans (b.mono bW.size),bx'⟩
 have hA:=h.1.lt
 generalize lK S o x y9=E at *
 generalize iH S o x y9=S2 at *
 have Tv:aG (ax S o.j) y9=true→oo (ax S o.j) y9=0:=fun z=>if_pos z
 have M7:aG (ax S o.j) y9=false→oo (ax S o.j) y9=1:=fun z=>if_neg (by rw [z];simp)
 generalize oo (ax S o.j) y9=C at *
 generalize aG (ax S o.j) y9=hb at *
 have HP:Aside _:=hpay
 have HF:Aside _:=hF
 have HH:Aside _:=hH
 have IZ:Aside _:=Tv
 have Y7:Aside _:=M7
 clear h ho hpay hF hH Tv M7 hj h8 hq
 go_enter Tryz.func109,Tryz.ntmps109
 go_upto_region 1 with fail
 obtain ⟨b3,s3,c1,c2,c3⟩:=yB w (wp H.kb) (.int .i64 x) (.int .i64 y9) 25 3 3
 generalize ((w.alloc (.cells #[wp H.kb] 25)).alloc (.cells #[.int .i64 x] 3)).alloc (.cells #[.int .i64 y9] 3)=W at *
 have hF:=HF.out W b3
 clear HF
 go_upto_region 5 with (go_at_call 51;refine hF.mono ?_;rintro e w1 ⟨rfl,hw⟩;subst w1)
 obtain ⟨b4,s4,c4,_⟩:=gQ W (wp (H.hs o.j)) 99
 rw [s3] at c4
 have d1:=aV b4 c1
 have d2:=aV b4 c2
 have d3:=aV b4 c3
 generalize W.alloc (.cells #[wp (H.hs o.j)] 99)=V at *
 have bV:Below w.heap.size w V:=b3.trans (b4.mono b3.size)
 have bx:pR V A [(w.heap.size,wp H.kb),(w.heap.size+1+1+1,wp (H.hs o.j)),(w.heap.size+1,.int .i64 x),(w.heap.size+1+1,.int .i64 y9)]:=fun y hy=>by
  have hn:∀i,w.heap.size≤i→¬A i:=fun i hi z=>by have:=hA i z;omega
  simp only [List.mem_cons,List.not_mem_nil,or_false] at hy
  rcases hy with rfl|rfl|rfl|rfl
  ·exact ⟨d1,hn _ (Nat.le_refl _)⟩
  ·exact ⟨c4,hn _ (by omega)⟩
  ·exact ⟨d2,hn _ (by omega)⟩
  ·exact ⟨d3,hn _ (by omega)⟩
 obtain ⟨c0,hH⟩:=HH.out V _ _ _ _ bV bx
 clear HH c1 c2 c3 hF b3 b4 bV s3 s4 d1 d2 d3 bx c4
 go_region_held3 (fun w'=>w'.cell? ⟨w.heap.size,0,none⟩=some (wp H.kb)∧w'.cell? ⟨H.kb,2,none⟩=some (wp H.f)∧w'.cell? ⟨w.heap.size+1+1+1,0,none⟩=some (wp (H.hs o.j))∧w'.cell? ⟨H.hs o.j,1,none⟩=some (wp (H.tb o.j))∧w'.cell? ⟨w.heap.size+1+1,0,none⟩=some (.int .i64 y9)) (first|exact c0|exact c9) (first
  |(go_at_call 206;refine hH.mono ?_;rintro e w5 ⟨rfl,c9,b5,bx5⟩))
 all_goals
  have hP:=HP.out w5 _ _ _ _ b5 bx5
  have c5:=c9.2.2.1
  clear HP c0 hH bx5 c9 b5
  cases hb with
  |true=>
   have hC:=IZ.out rfl
   subst hC
   clear IZ Y7
   go_wp2_with (go_at_call 125;refine hP.mono ?_;rintro e w6 ⟨c,rfl,hc,hR⟩)
   go_ret
   exact ⟨by rw [←hc];rfl,hR⟩
  |false=>
   have hC:=Y7.out rfl
   subst hC
   clear IZ Y7
   go_wp2_with (go_at_call 125;refine hP.mono ?_;rintro e w6 ⟨c,rfl,hc,hR⟩)
   go_ret
   exact ⟨by rw [←hc];rfl,hR⟩
end
section
variable {w w':World}{m:Int}{H:KH}{S:KS}{U:Nat→Nat→Int}{q:Nat}{A:Nat→Prop}{p:Int}{o:Ow}
theorem KX.UN (h:KX w m H S U q A) (ho:S.O p=none) (hp:(Lit.int .i64 p).wf=true) (x y z:Int) :
 Calls Tryz.prog 45 #[wp H.kb,.int .i64 p,.int .i64 x,.int .i64 y,.int .i64 z] w fun y w'=>y=.returned (eZ 7)∧Below w.heap.size w w':=by
 have hF:=fun W (hb:Below w.heap.size w W)=>(h.below hb).aS ho hp
 have HF:Aside _:=hF
 clear h ho hF
 go_enter Tryz.func45,Tryz.ntmps45
 go_upto_region 1 with fail
 obtain ⟨b3,s3,c1,c2,c3⟩:=yB w (.int .i64 x) (.int .i64 y) (.int .i64 z) 3 3 3
 have f3:=(gQ ((w.alloc (.cells #[.int .i64 x] 3)).alloc (.cells #[.int .i64 y] 3)) (.int .i64 z) 3).2.2.2
 rw [(qZ w (.int .i64 x) (.int .i64 y) 3 3).2.1] at f3
 have f2:(((w.alloc (.cells #[.int .i64 x] 3)).alloc (.cells #[.int .i64 y] 3)).alloc (.cells #[.int .i64 z] 3)).frozen? ⟨w.heap.size+1,0,none⟩=false:=by
  have:=(gQ (w.alloc (.cells #[.int .i64 x] 3)) (.int .i64 y) 3).2.2.2
  rw [(gQ w (.int .i64 x) 3).2.1] at this
  exact dN ((Below.refl _ _).alloc (Nat.le_refl _) _) (by rw [(qZ w (.int .i64 x) (.int .i64 y) 3 3).2.1];omega) this
 generalize ((w.alloc (.cells #[.int .i64 x] 3)).alloc (.cells #[.int .i64 y] 3)).alloc (.cells #[.int .i64 z] 3)=W at *
 have hF:=HF.out W b3
 clear HF f2 f3
 go_wp2_with (go_at_call 51;refine hF.mono ?_;rintro e w1 ⟨rfl,hw⟩;subst w1)
 go_ret
 exact ⟨rfl,b3.alloc b3.size _⟩
theorem KX.rH (h:KX w m H S U q A) (ho:S.O p=none) (hp:(Lit.int .i64 p).wf=true) (x y:Int) :
 Calls Tryz.prog 109 #[wp H.kb,.int .i64 p,.int .i64 x,.int .i64 y] w fun y w'=>y=.returned (eZ 7)∧Below w.heap.size w w':=by
 have hF:=fun W (hb:Below w.heap.size w W)=>(h.below hb).aS ho hp
 have HF:Aside _:=hF
 clear h ho hF
 go_enter Tryz.func109,Tryz.ntmps109
 go_upto_region 1 with fail
 obtain ⟨b3,s3,c1,c2,c3⟩:=yB w (wp H.kb) (.int .i64 x) (.int .i64 y) 25 3 3
 have f3:=(gQ ((w.alloc (.cells #[wp H.kb] 25)).alloc (.cells #[.int .i64 x] 3)) (.int .i64 y) 3).2.2.2
 rw [(qZ w (wp H.kb) (.int .i64 x) 25 3).2.1] at f3
 have f2:(((w.alloc (.cells #[wp H.kb] 25)).alloc (.cells #[.int .i64 x] 3)).alloc (.cells #[.int .i64 y] 3)).frozen? ⟨w.heap.size+1,0,none⟩=false:=by
  have:=(gQ (w.alloc (.cells #[wp H.kb] 25)) (.int .i64 x) 3).2.2.2
  rw [(gQ w (wp H.kb) 25).2.1] at this
  exact dN ((Below.refl _ _).alloc (Nat.le_refl _) _) (by rw [(qZ w (wp H.kb) (.int .i64 x) 25 3).2.1];omega) this
 generalize ((w.alloc (.cells #[wp H.kb] 25)).alloc (.cells #[.int .i64 x] 3)).alloc (.cells #[.int .i64 y] 3)=W at *
 have hF:=HF.out W b3
 clear HF f2 f3
 go_wp2_with (go_at_call 51;refine hF.mono ?_;rintro e w1 ⟨rfl,hw⟩;subst w1)
 go_ret
 exact ⟨rfl,b3.alloc b3.size _⟩
theorem KX.Vb (h:KX w m H S U q A) (ho:S.O p=none) (hp:(Lit.int .i64 p).wf=true) (x:Int) :
 Calls Tryz.prog 108 #[wp H.kb,.int .i64 p,.int .i64 x] w fun y w'=>y=.returned (.tuple #[.int .i64 0,eZ 7])∧Below w.heap.size w w':=by
 have hF:=fun W (hb:Below w.heap.size w W)=>(h.below hb).aS ho hp
 have HF:Aside _:=hF
 clear h ho hF
 go_enter Tryz.func108,Tryz.ntmps108
 go_upto_region 1 with fail
 obtain ⟨b3,s3,c1,c2,c3⟩:=yB w (wp H.kb) (.int .i64 x) (.int .i64 0) 25 3 3
 have f3:=(gQ ((w.alloc (.cells #[wp H.kb] 25)).alloc (.cells #[.int .i64 x] 3)) (.int .i64 0) 3).2.2.2
 rw [(qZ w (wp H.kb) (.int .i64 x) 25 3).2.1] at f3
 have f2:(((w.alloc (.cells #[wp H.kb] 25)).alloc (.cells #[.int .i64 x] 3)).alloc (.cells #[.int .i64 0] 3)).frozen? ⟨w.heap.size+1,0,none⟩=false:=by
  have:=(gQ (w.alloc (.cells #[wp H.kb] 25)) (.int .i64 x) 3).2.2.2
  rw [(gQ w (wp H.kb) 25).2.1] at this
  exact dN ((Below.refl _ _).alloc (Nat.le_refl _) _) (by rw [(qZ w (wp H.kb) (.int .i64 x) 25 3).2.1];omega) this
 generalize ((w.alloc (.cells #[wp H.kb] 25)).alloc (.cells #[.int .i64 x] 3)).alloc (.cells #[.int .i64 0] 3)=W at *
 have hF:=HF.out W b3
 clear HF
 go_upto_region 3 with (go_at_call 51;refine hF.mono ?_;rintro e w1 ⟨rfl,hw⟩;subst w1)
 obtain ⟨b4,s4,c4,_⟩:=gQ W (.pointer none) 99
 have d2:=aV b4 c2
 have d3:=aV b4 c3
 have g2:=dN b4 (World.block_lt_of_cell? W _ c2) f2
 have g3:=dN b4 (World.block_lt_of_cell? W _ c3) f3
 generalize W.alloc (.cells #[.pointer none] 99)=V at *
 have bV:Below w.heap.size w V:=b3.trans (b4.mono b3.size)
 have y2:=World.cell?_setCell_same V ⟨w.heap.size+1,0,none⟩ (.int .i64 0) d2
 have y3:=World.cell?_setCell_same V ⟨w.heap.size+1+1,0,none⟩ (.int .i64 0) d3
 have y23:=World.cell?_setCell_same (V.setCell ⟨w.heap.size+1,0,none⟩ (.int .i64 0)) ⟨w.heap.size+1+1,0,none⟩ (.int .i64 0) (iW d3 (by omega) _)
 have Y2:Aside _:=y2
 have Y3:Aside _:=y3
 have Y23:Aside _:=y23
 clear y2 y3 y23
 clear f2 f3 c1 c2 c3 c4 hF b4 s4 s3
 go_wp2_with fail
 refine bodyPost_ret (v:=.tuple #[.int .i64 0,eZ 7]) (by simp [results,Tryz.results108,go_sem,Y3.out]) rfl ⟨rfl,?_⟩
 exact ⟨bV.os,bV.tape,bV.output,by simpa [World.setCell] using bV.size,fun i hi=>by rw [Below.heap_setCell _ _ _ _ (fun e=>by simp only at e;omega)];exact bV.block i hi⟩
theorem KX.Bf (h:KX w m H S U q A) (ho:S.O p=none) (hp:(Lit.int .i64 p).wf=true) :
 Calls Tryz.prog 13 #[wp H.kb,.int .i64 p] w fun y w'=>y=.returned (.tuple #[.int .i64 0,.int .i64 0,eZ 7])∧Below w.heap.size w w':=by
 have hF:=fun W (hb:Below w.heap.size w W)=>(h.below hb).aS ho hp
 have HF:Aside _:=hF
 clear h ho hF
 go_enter Tryz.func13,Tryz.ntmps13
 go_upto_region 1 with fail
 obtain ⟨b3,s3,c1,c2,c3⟩:=yB w (wp H.kb) (.int .i64 0) (.int .i64 0) 25 3 3
 have f3:=(gQ ((w.alloc (.cells #[wp H.kb] 25)).alloc (.cells #[.int .i64 0] 3)) (.int .i64 0) 3).2.2.2
 rw [(qZ w (wp H.kb) (.int .i64 0) 25 3).2.1] at f3
 have f2:(((w.alloc (.cells #[wp H.kb] 25)).alloc (.cells #[.int .i64 0] 3)).alloc (.cells #[.int .i64 0] 3)).frozen? ⟨w.heap.size+1,0,none⟩=false:=by
  have:=(gQ (w.alloc (.cells #[wp H.kb] 25)) (.int .i64 0) 3).2.2.2
  rw [(gQ w (wp H.kb) 25).2.1] at this
  exact dN ((Below.refl _ _).alloc (Nat.le_refl _) _) (by rw [(qZ w (wp H.kb) (.int .i64 0) 25 3).2.1];omega) this
 generalize ((w.alloc (.cells #[wp H.kb] 25)).alloc (.cells #[.int .i64 0] 3)).alloc (.cells #[.int .i64 0] 3)=W at *
 have hF:=HF.out W b3
 clear HF
 go_upto_region 3 with (go_at_call 51;refine hF.mono ?_;rintro e w1 ⟨rfl,hw⟩;subst w1)
 obtain ⟨b4,s4,c4,_⟩:=gQ W (.pointer none) 99
 have d2:=aV b4 c2
 have d3:=aV b4 c3
 have g2:=dN b4 (World.block_lt_of_cell? W _ c2) f2
 have g3:=dN b4 (World.block_lt_of_cell? W _ c3) f3
 generalize W.alloc (.cells #[.pointer none] 99)=V at *
 have bV:Below w.heap.size w V:=b3.trans (b4.mono b3.size)
 have y2:=World.cell?_setCell_same V ⟨w.heap.size+1,0,none⟩ (.int .i64 0) d2
 have y3:=World.cell?_setCell_same V ⟨w.heap.size+1+1,0,none⟩ (.int .i64 0) d3
 have y23:=World.cell?_setCell_same (V.setCell ⟨w.heap.size+1,0,none⟩ (.int .i64 0)) ⟨w.heap.size+1+1,0,none⟩ (.int .i64 0) (iW d3 (by omega) _)
 have Y2:Aside _:=y2
 have Y3:Aside _:=y3
 have Y23:Aside _:=y23
 clear y2 y3 y23
 clear f2 f3 c1 c2 c3 c4 hF b4 s4 s3
 go_wp2_with fail
 refine bodyPost_ret (v:=.tuple #[.int .i64 0,.int .i64 0,eZ 7]) (by simp [results,Tryz.results13,go_sem,Y2.out,Y23.out]) rfl ⟨rfl,?_⟩
 exact ⟨bV.os,bV.tape,bV.output,by simpa [World.setCell] using bV.size,fun i hi=>by rw [Below.heap_setCell _ _ _ _ (fun e=>by simp only at e;omega),Below.heap_setCell _ _ _ _ (fun e=>by simp only at e;omega)];exact bV.block i hi⟩
end
section
variable {w:World}{m:Int}{H:KH}{S:KS}{U:Nat→Nat→Int}{q:Nat}{A:Nat→Prop}{p:Int}
theorem KX.RD (h:KX w m H S U q A) (ho:S.O p=none) (hp:(Lit.int .i64 p).wf=true) (path:List UInt8) (pr:Int) (mk:Bool) :
 Calls Tryz.prog 107 #[wp H.kb,.int .i64 p,tx path,.int .i64 pr,.bool mk] w fun y w'=>y=.returned (.tuple #[.int .i64 0,eZ 7])∧Below w.heap.size w w':=by
 have hF:=fun W (hb:Below w.heap.size w W)=>(h.below hb).aS ho hp
 have HF:Aside _:=hF
 clear h ho hF
 go_enter Tryz.func107,Tryz.ntmps107
 go_upto_region 1 with fail
 obtain ⟨b3,s3,c1,c2,c3⟩:=yB w (wp H.kb) (tx path) (.int .i64 pr) 25 9 3
 generalize ((w.alloc (.cells #[wp H.kb] 25)).alloc (.cells #[tx path] 9)).alloc (.cells #[.int .i64 pr] 3)=W3 at *
 obtain ⟨b5,s5,c4,c5⟩:=qZ W3 (.bool mk) (.int .i64 0) 4 3
 have f5:=(gQ (W3.alloc (.cells #[.bool mk] 4)) (.int .i64 0) 3).2.2.2
 rw [(gQ W3 (.bool mk) 4).2.1] at f5
 rw [s3] at s5 c4 c5 f5
 have c1':=aV b5 c1
 generalize (W3.alloc (.cells #[.bool mk] 4)).alloc (.cells #[.int .i64 0] 3)=W at *
 have bW:Below w.heap.size w W:=b3.trans (b5.mono b3.size)
 have hF:=HF.out W bW
 clear HF c1 c2 c3 c4
 go_upto_region 3 with (go_at_call 51;refine hF.mono ?_;rintro e w1 ⟨rfl,hw⟩;subst w1)
 obtain ⟨b6,s6,c6,_⟩:=gQ W (.pointer none) 99
 have d5:=aV b6 c5
 have f6:=dN b6 (World.block_lt_of_cell? W _ c5) f5
 generalize W.alloc (.cells #[.pointer none] 99)=V at *
 have bV:Below w.heap.size w V:=bW.trans (b6.mono bW.size)
 have y5:=World.cell?_setCell_same V ⟨w.heap.size+1+1+1+1,0,none⟩ (.int .i64 0) d5
 have Y5:Aside _:=y5
 clear y5 f5 c1' c5 c6 hF b6 s6 s5 s3 b3 b5 bW
 go_wp2_with fail
 refine bodyPost_ret (v:=.tuple #[.int .i64 0,eZ 7]) (by simp [results,Tryz.results107,go_sem,Y5.out]) rfl ⟨rfl,?_⟩
 exact ⟨bV.os,bV.tape,bV.output,by simpa [World.setCell] using bV.size,fun i hi=>by rw [Below.heap_setCell _ _ _ _ (fun e=>by simp only at e;omega)];exact bV.block i hi⟩
end
end Go.Proofs.YtcfhanoekniaaaaGreatDoor
namespace Go.Proofs.YtcfhanoekniaaaaGreatDoor
open Go.RowKit Go.Shelf Go.Lib Go.Sort Go.Maps
theorem Jl {t t':Int→Nat}{n f:Nat}(hf:f<n) (h0:t (f:Int)=0) (h1:t' (f:Int)≠0) (ho:∀x:Int,0≤x→x≠(f:Int)→(t x=0↔t' x=0)):used t' n=used t n+1:=by
 rw [He,He]
 refine fu (f:=f) (d:=1) (by simp [h0,h1]) (fun i hi=>?_) n 0 (by omega) (by omega)
 have:=ho i (by omega) (by omega)
 by_cases e:t (i:Int)=0
 ·rw [if_pos e,if_pos (this.1 e)]
 ·rw [if_neg e,if_neg (fun e'=>e (this.2 e'))]
def P1:PM:=fe (fun _=>none) 0 2 3
theorem WX:P1 0=some (3,-1):=by unfold P1 fe;rfl
theorem Fp (x:Int):bZ P1 x=-1:=by
 have:P1 x=some (3,-1)∨P1 x=none:=by
  unfold P1 fe;by_cases h:0≤x∧x<0+((2:Nat):Int)
  ·exact .inl (if_pos h)
  ·exact .inr (if_neg h)
 rcases this with h|h
 ·rw [kr h]
 ·exact mr h
theorem MC {f:Int}(hf:0≤f):sh P1 f=0:=Hu hf (fun a=>by rw [Fp];omega)
theorem XF {f z:Int}(_hf:0≤f) (hz:0≤z):sh (bQ P1 0 (3,f)) z=if f=z then 1 else 0:=by
 have h:=wo (P:=P1) (a:=0) (by omega) (by omega) (3,f) z
 rw [MC hz,Fp,if_neg (by omega)] at h
 simpa using h
theorem XG:(pg P1 0).1=3:=by unfold pg;rw [WX];rfl
theorem WW (f:Int):bQ P1 0 (3,f) 0=some (3,f):=by unfold bQ;rw [if_pos rfl]
theorem MJ {P:PM}{f:Int}(h:P 0=some (3,f)):eu P 0 1 2=0∧eu P 0 1 1=0:=by unfold eu;rw [h];exact ⟨by simp,by simp⟩
end Go.Proofs.YtcfhanoekniaaaaGreatDoor
namespace Go.Proofs.YtcfhanoekniaaaaGreatDoor
open Go.RowKit Go.Maps
section
variable {w w1 w2:World}{m:Int}{A A':Nat→Prop}
theorem Stp.toBelow (hb:Below w.heap.size w w1) (hA:∀i,A i→w.heap.size≤i) (st:Stp w1 w2 A A'):Below w.heap.size w w2:=
 ⟨st.wt.os.trans hb.os,st.wt.tape.trans hb.tape,st.wt.output.trans hb.output,Nat.le_trans hb.size st.wt.size,fun i hi=>by
  rw [st.wt.block i (Nat.lt_of_lt_of_le hi hb.size) (fun z=>by have:=hA i z;omega)]
  exact hb.block i hi⟩
theorem uM:aP eQ=2:=pJ ⟨by omega,by unfold eQ;rw [if_neg (by omega)],fun j h1 h2=>by
 have:j=1:=by omega
 subst this;rfl⟩ (by omega)
theorem FP:(ah eQ).length=1:=by decide
abbrev o1:Ow:=⟨0,firstM,0⟩
abbrev o2:Ow:=⟨1,firstM,0⟩
noncomputable def uA:KS:=iV (gX 4) 1 o1
theorem Mw:uA.O 2=some o2:=by
 show jI (gX 4).O (aP eQ) ⟨1,firstM,0⟩ 2=_
 rw [uM];rfl
theorem Dr:og uA o2 0 2 3=0:=by
 have e:aK uA 1=kL:=rfl
 have e1:iP kL 0 2 3=0:=by decide +kernel
 unfold og
 rw [e,if_neg (not_not_intro e1),if_pos]
 rw [show bI kL=0 from pI]
 decide
noncomputable def bJ:KS:=jA uA o2 0 2 3
theorem mQ:bJ=uA.space 1 P1 uA.W:=by
 unfold bJ jA
 rw [if_pos Dr]
 have e:aK uA 1=kL:=rfl
 have e1:iP kL 0 2 3=0:=by decide +kernel
 have yx:kP kL 0 2 3=P1:=by unfold kP;rw [if_pos e1];rfl
 rw [e,yx]
theorem Bl:bJ.Ms=[kL,P1]:=by rw [mQ];rfl
theorem TV {x:Int}(hx:0≤x) (P:PM):kM [kL,P] x=sh P x:=by
 unfold kM
 simp only [List.map_cons,List.map_nil,List.sum_cons,List.sum_nil]
 rw [show sh kL x=0 from oF hx];omega
theorem FZ {went:List Int}{er:Int}{S':KS}(h:fD 2 0 1 5 bJ went er S'):went=[]∧er=0∧∃f:Nat,f<4∧∃D2:Nat→Nat→Int,D2 f 1=5∧S'=bJ.space 1 (bQ P1 0 (3,(f:Int))) D2:=by
 have hO:bJ.O 2=some o2:=by rw [mQ];exact Mw
 have hm:aK bJ 1=P1:=by unfold aK;rw [Bl];rfl
 have ht:∀x,0≤x→kM bJ.Ms x=0:=fun x hx=>by rw [Bl,TV hx,MC hx]
 have hn:bJ.n=4:=by rw [mQ];rfl
 have hz:∀x,0≤x→sh P1 x+mX bJ 1 x=0:=fun x hx=>by
  unfold mX;rw [ht x hx,MC hx,Nat.zero_sub]
 have hs:∀ {er P' D'},yw bJ.n (aK bJ 1) (mX bJ 1) bJ.W 0 1 5 er P' D'→∃f:Nat,f<4∧er=0∧P'=bQ P1 0 (3,(f:Int))∧D' f 1=5:=fun {er P' D'} hr=>by
  rw [hm,hn] at hr
  rcases hr with ⟨h,_⟩|⟨_,h,_⟩|⟨_,_,h,_⟩|⟨_,_,f,hf1,hf2,h4,h5,h6⟩
  ·exact absurd (MJ WX).1 h
  ·exact absurd (Fp 0) h
  ·exfalso
   rw [xg (t':=fun _=>0) hz,tF] at h;omega
  ·exact ⟨f,hf1,h4,by rw [h5,XG],by rw [h6];simp [upd]⟩
 cases h with
 |done ho hr h12=>
  rw [hO] at ho
  cases ho
  obtain ⟨f,h1,rfl,rfl,h4⟩:=hs hr
  exact ⟨rfl,rfl,f,h1,_,h4,rfl⟩
 |nobody ho hr hv=>
  rw [hO] at ho
  cases ho
  obtain ⟨f,h1,h2,_⟩:=hs hr
  omega
 |self ho hr hv he=>
  rw [hO] at ho
  cases ho
  obtain ⟨f,h1,h2,_⟩:=hs hr
  omega
 |goes ho hr=>
  rw [hO] at ho
  cases ho
  obtain ⟨f,h1,h2,_⟩:=hs hr
  omega
theorem Om {f:Nat}(hf:f<4) {S:KS}(hn:S.n=4) (hM:S.Ms=[kL,bQ P1 0 (3,(f:Int))]):S.n-used (kM S.Ms) S.n=3:=by
 rw [hn]
 have h0:used (fun _=>0) 4=0:=tF 4
 have hf0:(0:Int)≤(f:Int):=by omega
 have ht:∀x,0≤x→kM S.Ms x=if (f:Int)=x then 1 else 0:=fun x hx=>by rw [hM,TV hx,XF hf0 hx]
 rw [Jl (t:=fun _=>0) hf rfl (by rw [ht _ hf0,if_pos rfl];decide) (fun x hx hne=>by rw [ht x hx,if_neg (fun h=>hne h.symm)]),h0]
theorem Oo {S:KS}(hn:S.n=4) (hM:S.Ms=[kL,kL]):S.n-used (kM S.Ms) S.n=4:=by
 rw [hn,xg (t':=fun _=>0) (fun x hx=>by rw [hM,TV hx];exact oF hx),tF]
theorem F3 {ok:Bool}(w:World) (hm:w.cell? ⟨4,0,none⟩=some (.int .i64 m)) (he:w.cell? ⟨0,0,none⟩=some fC) (ht:uY ok w) :
 Calls Tryz.prog 12 #[.int .i64 4] w fun y w1=>∃kb,y=.returned (.tuple #[wp kb,.nilIface])∧Calls Tryz.prog 14 #[wp kb,.int .i64 1] w1 fun y w2=>y=.returned (.tuple #[.int .i64 2,.nilIface])∧Calls Tryz.prog 45 #[wp kb,.int .i64 2,.int .i64 0,.int .i64 2,.int .i64 3] w2 fun y w3=>y=.returned .nilIface∧Calls Tryz.prog 42 #[wp kb,.int .i64 2,.int .i64 0,.int .i64 1,.int .i64 5] w3 fun y w4=>∃ad cap,y=.returned (.tuple #[.slice ad 0 cap,.nilIface])∧Calls Tryz.prog 44 #[wp kb,.int .i64 2,.int .i64 0,.int .i64 1] w4 fun y w5=>y=.returned (.tuple #[.int .i64 5,.nilIface])∧Calls Tryz.prog 39 #[wp kb] w5 fun y w6=>y=.returned (.int .i64 3)∧Calls Tryz.prog 20 #[wp kb,.int .i64 2,.int .i64 0] w6 fun y w7=>y=.returned .nilIface∧Calls Tryz.prog 39 #[wp kb] w7 fun y w8=>y=.returned (.int .i64 4)∧Below w.heap.size w w8:=by
 refine (rZ w 4 (by omega) (by omega) hm he ht).mono ?_
 rintro y w1 ⟨H,A,rfl,k1,hA,b1,_⟩
 refine ⟨H.kb,rfl,(k1.IA (p:=1) (o:=o1) rfl (by omega) (by show (ah eQ).length<24;rw [FP];omega)).mono ?_⟩
 rintro y w2 ⟨rfl,H',A2,⟨hkb,_⟩,k2,st2⟩
 have e2:aP (gX 4).P=2:=uM
 rw [e2,←hkb]
 have k2:KN w2 m H' uA 1 A2:=k2
 refine ⟨rfl,(k2.Ii Mw 0 2 3 (by omega)).mono ?_⟩
 rintro y w3 ⟨rfl,A3,k3,vI⟩
 rw [Dr,aC]
 have k3:KN w3 m H' bJ 1 A3:=k3
 have hO:bJ.O 2=some o2:=by rw [mQ];exact Mw
 refine ⟨rfl,(k3.zf hO (by omega) 0 1 5 (by kernel_rfl)).mono ?_⟩
 rintro y w4 ⟨vw,er,rfl,went,S',A4,hS,hw,k4,VC⟩
 obtain ⟨rfl,rfl,f,hf,D2,hD,rfl⟩:=FZ hS
 obtain ⟨ad,cap,rfl⟩:∃ad cap,vw=.slice ad 0 cap:=by
  rcases hw.row.2 with ⟨e,_⟩|⟨g,cap,cur,e,_⟩
  ·exact ⟨none,0,e⟩
  ·exact ⟨_,cap,e⟩
 have hms:(bJ.space 1 (bQ P1 0 (3,(f:Int))) D2).Ms=[kL,bQ P1 0 (3,(f:Int))]:=by
  show bJ.Ms.set 1 _=_
  rw [Bl];rfl
 have hn4:(bJ.space 1 (bQ P1 0 (3,(f:Int))) D2).n=4:=by
  show bJ.n=4
  rw [mQ];rfl
 have V6:aK (bJ.space 1 (bQ P1 0 (3,(f:Int))) D2) 1=bQ P1 0 (3,(f:Int)):=by unfold aK;rw [hms];rfl
 have hL:=k4.1.Dl (p:=2) (o:=o2) hO 0 1 (by kernel_rfl)
 have hu:=(MJ (WW (f:Int))).2
 have hv:gI (aK (bJ.space 1 (bQ P1 0 (3,(f:Int))) D2) o2.j) (bJ.space 1 (bQ P1 0 (3,(f:Int))) D2).W 0 1=5:=by
  show gI (aK (bJ.space 1 (bQ P1 0 (3,(f:Int))) D2) 1) D2 0 1=5
  rw [V6]
  unfold gI
  rw [if_pos hu]
  unfold wd
  rw [kr (WW (f:Int)),if_neg (by simp only;omega)]
  simpa using hD
 have hu':eu (aK (bJ.space 1 (bQ P1 0 (3,(f:Int))) D2) o2.j) 0 1 1=0:=by
  show eu (aK (bJ.space 1 (bQ P1 0 (3,(f:Int))) D2) 1) 0 1 1=0
  rw [V6];exact hu
 rw [hv,hu',aC] at hL
 refine ⟨ad,cap,rfl,hL.mono ?_⟩
 rintro y w5 ⟨rfl,b5⟩
 have k5:=k4.below b5
 have h3:=k5.1.left
 rw [Om hf hn4 hms] at h3
 refine ⟨rfl,h3.mono ?_⟩
 rintro y w6 ⟨rfl,rfl⟩
 refine ⟨rfl,(k5.DF (p:=2) (o:=o2) hO (by omega) 0).mono ?_⟩
 rintro y w7 ⟨rfl,A7,k7,st7⟩
 have e7:oz (bJ.space 1 (bQ P1 0 (3,(f:Int))) D2) 2 o2 0=df (bJ.space 1 (bQ P1 0 (3,(f:Int))) D2) 2 o2 0:=if_neg (by omega)
 rw [e7] at k7
 have h4:=k7.1.left
 have Zw:(df (bJ.space 1 (bQ P1 0 (3,(f:Int))) D2) 2 o2 0).Ms=[kL,kL]:=by
  show (bJ.space 1 (bQ P1 0 (3,(f:Int))) D2).Ms.set 1 kL=_
  rw [hms];rfl
 rw [Oo (S:=df (bJ.space 1 (bQ P1 0 (3,(f:Int))) D2) 2 o2 0) hn4 Zw] at h4
 refine ⟨rfl,h4.mono ?_⟩
 rintro y w8 ⟨rfl,rfl⟩
 exact ⟨rfl,Stp.toBelow b1 hA ((((st2.trans vI).trans VC).trans (.below b5)).trans st7)⟩
theorem Ru {ok:Bool}(w:World) (hm:w.cell? ⟨4,0,none⟩=some (.int .i64 m)) (he:w.cell? ⟨0,0,none⟩=some fC) (ht:uY ok w) :
 Calls Tryz.prog 11 #[] w fun e w'=>e=.returned (.bool true)∧Below w.heap.size w w':=by
 have ch:=F3 w hm he ht
 clear hm he ht
 go_enter Tryz.func11,Tryz.ntmps11
 go_wp2_with (first
  |(go_at_call 39;refine c7.mono ?_;rintro e w8 ⟨rfl,hR⟩)
  |(go_at_call 12;refine ch.mono ?_;rintro e w1 ⟨kb,rfl,c1⟩)
  |(go_at_call 14;refine c1.mono ?_;rintro e w2 ⟨rfl,c2⟩)
  |(go_at_call 45;refine c2.mono ?_;rintro e w3 ⟨rfl,c3⟩)
  |(go_at_call 42;refine c3.mono ?_;rintro e w4 ⟨ad,cap,rfl,c4⟩)
  |(go_at_call 44;refine c4.mono ?_;rintro e w5 ⟨rfl,c5⟩)
  |(go_at_call 39;refine c5.mono ?_;rintro e w6 ⟨rfl,c6⟩)
  |(go_at_call 20;refine c6.mono ?_;rintro e w7 ⟨rfl,c7⟩))
 go_ret
 exact ⟨rfl,hR⟩
end
def dT (a b:Int) (B:List UInt8):DS:=⟨iF,fun i=>if i=3 then some ⟨3,2,0,1,0⟩ else if i=2 then some ⟨2,1,0,1,0⟩ else none,fun i=>if i=3 then some b else if i=2 then some a else none,fun i=>if i=1 then some (B,1,1) else none,3⟩
abbrev tA:Ns:=[(2,false),(3,false),(0,false),(0,false),(0,false),(0,false),(0,false),(0,false)]
theorem yX (a:Int) (n:Nat) (h1:1≤n) (h2:n≤1000000):∃r:Nat,r<n∧∀w:World,Calls Tryz.prog 18 #[.int .i64 a,.int .i64 n] w fun e w'=>e=.returned (.int .i64 r)∧w'=w:=by
 have hb:=rW a n (by omega) (by omega)
 obtain ⟨r,hr⟩:∃r:Nat,wrap64 ((IntKind.u64.wrap a).tmod n)=r:=⟨(wrap64 ((IntKind.u64.wrap a).tmod n)).toNat,by omega⟩
 rw [hr] at hb
 refine ⟨r,by omega,fun w=>?_⟩
 go_enter Tryz.func18,Tryz.ntmps18
 go_wp2
 go_ret
 exact ⟨by rw [←hr];rfl,rfl⟩
end Go.Proofs.YtcfhanoekniaaaaGreatDoor

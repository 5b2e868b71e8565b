/- The greatest number that was given: what each call makes of it. -/
import Derived.Test.YtcfhanoekniaaaaGreatDoorDOps
import Derived.Test.YtcfhanoekniaaaaGreatDoorZNo
import Derived.Test.YtcfhanoekniaaaaGreatDoorJProg4
set_option maxHeartbeats 4000000
set_option maxRecDepth 100000
namespace Go.Proofs.YtcfhanoekniaaaaGreatDoor
open Go.RowKit Go.Maps
section
variable {D:DS}
theorem wK (D:DS) (d:Int):(aQ D d).nx=D.nx:=by
 unfold aQ
 split
 ·split
  ·rfl
  ·split<;>rfl
 ·rfl
theorem vB (all:Bool) (D:DS) (N:Ns):∀i,(ai all D N i).1.nx=D.nx
 |0=>rfl
 |i+1=>by
  rw [ai]
  split
  ·simp only;rw [wK];exact vB all D N i
  ·exact vB all D N i
theorem Q8 {N:Ns}{n s:Nat}{p:List UInt8}{pr:Int}{mk:Bool}{x c:Int}{D':DS}{N':Ns}(h:iG D N n s p pr mk x c D' N'):D'.nx≤D.nx+3:=by
 cases h<;>(try simp only [iR])<;>omega
theorem Q6 {N:Ns}{n:Nat}{x y c:Int}{D':DS}{N':Ns}(h:qc D N n x y c D' N'):D'.nx≤D.nx+3:=by
 rcases h with ⟨_,_,_,_,rfl,_⟩|⟨_,_,_,_,rfl,_⟩
 ·omega
 ·simp only [uy,ou,jY,iR];omega
theorem UF (D:DS) (N:Ns) (x:Int):(jR D N x).nx=D.nx:=by unfold jR;split<;>rfl
theorem Q9 (D:DS) (N:Ns) (x y:Int):(eO D N x y).nx=D.nx:=by
 unfold eO
 split
 ·split
  ·rfl
  ·rw [wK];rfl
 ·rfl
theorem J2 (D:DS) (N:Ns) (x:Int):(gM D N x).nx=D.nx:=by
 unfold gM
 split
 ·rw [wK]
 ·rfl
theorem Q5 (D:DS) (N:Ns) (x a:Int):(dh D N x a).2.2.nx=D.nx:=by
 unfold dh
 split
 ·split
  ·rfl
  ·split
   ·rfl
   ·split
    ·rfl
    ·split<;>rfl
 ·rfl
theorem NV (D:DS) (N:Ns) (x:Int) (s:List UInt8) (a:Int):(cu D N x s a).2.2.nx=D.nx:=by
 unfold cu
 split
 ·split
  ·rfl
  ·split
   ·rfl
   ·split
    ·split
     ·rfl
     ·split<;>rfl
    ·split<;>rfl
 ·rfl
end
section
variable {w w':World}{m:Int}{H:KH}{S:KS}{U:Nat→Nat→Int}{q:Nat}{A:Nat→Prop}{p:Int}{o:Ow}
theorem KX.desc (h:KX w m H S U q A) (hj:o.j<S.Ts.length) {q':Nat}(hq:q≤q') {fn:FuncId}{args:Array Value}{Q:Ending→DS→Ns→Prop}
 (hc:∀bs Ad (hb:o.j<bs.length),bs[o.j]=H.tb o.j→KD w m H.f H.r S.D bs S.Ts (2*q) Ad→Calls Tryz.prog fn args w fun y w'=>∃D' N' A',Q y D' N'∧KD w' m H.f H.r D' bs (S.Ts.set o.j N') (2*q') A'∧Stp w w' Ad A')
 (hx:∀y D' N',Q y D' N'→D'.nx≤3*(q':Int)) :
 Calls Tryz.prog fn args w fun y w'=>∃D' N',Q y D' N'∧∃A',KX w' m H (S.files D' o.j N') U q' A'∧Stp w w' A A':=by
 obtain ⟨G,k,e⟩:=h
 have hb:o.j<G.bs.length:=by rw [k.Lb];exact hj
 refine (hc G.bs G.Ad hb (k.tb _ hb) k.kd).mono ?_
 rintro y w' ⟨D',N',A',hQ,kd',st⟩
 obtain ⟨G',k',st'⟩:=k.desc kd' st (by rw [List.length_set]) (hx y D' N' hQ) hq
 exact ⟨D',N',hQ,_,.of k',oZ e st'⟩
theorem KD.more {f r k:Nat}{D:DS}{bs:List Nat}{Ts:List Ns}{Ad:Nat→Prop}(kd:KD w m f r D bs Ts k Ad) {k':Nat}(hk:k≤k'):KD w m f r D bs Ts k' Ad:={ kd with inv:=kd.inv.more hk }
theorem KX.lM (h:KX w m H S U q A) (hj:o.j<S.Ts.length) (x:Int):Calls Tryz.prog 206 #[wp H.f,wp (H.tb o.j),.int .i64 x] w fun y w'=>y=.returned (.bool (aG (ax S o.j) x))∧Below w.heap.size w w':=by
 obtain ⟨G,k,e⟩:=h
 have hb:o.j<G.bs.length:=by rw [k.Lb];exact hj
 have:=k.kd.has hb x
 rw [k.tb _ hb,←iD hj] at this
 exact this
theorem KX.Na (h:KX w m H S U q A) (hj:o.j<S.Ts.length) (hq:q≤200) (x:Int) :
 Calls Tryz.prog 57 #[wp H.f,wp (H.tb o.j),.int .i64 x] w fun y w'=>y=.returned (aH (if aG (ax S o.j) x=true then 0 else 7))∧∃A',KX w' m H (S.files (gM S.D (ax S o.j) x) o.j (fO (ax S o.j) x)) U q A'∧Stp w w' A A':=by
 refine (h.desc hj (q':=q) (by omega) (Q:=fun y D' N'=>y=.returned (aH (if aG (ax S o.j) x=true then 0 else 7))∧D'=gM S.D (ax S o.j) x∧N'=fO (ax S o.j) x) (fun bs Ad hb e kd=>?_) (fun y D' N' hq=>?_)).mono ?_
 ·have:=kd.close (by omega) hb x
  rw [←iD hj,e] at this
  exact this
 ·obtain ⟨_,rfl,rfl⟩:=hq
  have:=h.nx
  rw [J2];exact this
 ·rintro y w' ⟨D',N',⟨rfl,rfl,rfl⟩,r⟩
  exact ⟨rfl,r⟩
theorem KX.ZO (h:KX w m H S U q A) (hj:o.j<S.Ts.length) (x:Int) :
 Calls Tryz.prog 205 #[wp H.f,wp (H.tb o.j),.int .i64 x] w fun y w'=>y=.returned (.tuple #[.int .i64 (iC (ax S o.j) x),aH (iQ (ax S o.j) x)])∧∃A',KX w' m H (S.files (jR S.D (ax S o.j) x) o.j (jQ (ax S o.j) x)) U q A'∧Stp w w' A A':=by
 refine (h.desc hj (q':=q) (by omega) (Q:=fun y D' N'=>y=.returned (.tuple #[.int .i64 (iC (ax S o.j) x),aH (iQ (ax S o.j) x)])∧D'=jR S.D (ax S o.j) x∧N'=jQ (ax S o.j) x) (fun bs Ad hb e kd=>?_) (fun y D' N' hq=>?_)).mono ?_
 ·have:=kd.dup hb x
  rw [←iD hj,e] at this
  exact this
 ·obtain ⟨_,rfl,rfl⟩:=hq
  have:=h.nx
  rw [UF];exact this
 ·rintro y w' ⟨D',N',⟨rfl,rfl,rfl⟩,r⟩
  exact ⟨rfl,r⟩
theorem KX.XA (h:KX w m H S U q A) (hj:o.j<S.Ts.length) (hq:q≤200) (x y9:Int) :
 Calls Tryz.prog 208 #[wp H.f,wp (H.tb o.j),.int .i64 x,.int .i64 y9] w fun y w'=>y=.returned (aH (eD (ax S o.j) x y9))∧∃A',KX w' m H (S.files (eO S.D (ax S o.j) x y9) o.j (dV (ax S o.j) x y9)) U q A'∧Stp w w' A A':=by
 refine (h.desc hj (q':=q) (by omega) (Q:=fun y D' N'=>y=.returned (aH (eD (ax S o.j) x y9))∧D'=eO S.D (ax S o.j) x y9∧N'=dV (ax S o.j) x y9) (fun bs Ad hb e kd=>?_) (fun y D' N' hq=>?_)).mono ?_
 ·have:=kd.dup2 (by omega) hb x y9
  rw [←iD hj,e] at this
  exact this
 ·obtain ⟨_,rfl,rfl⟩:=hq
  have:=h.nx
  rw [Q9];exact this
 ·rintro y w' ⟨D',N',⟨rfl,rfl,rfl⟩,r⟩
  exact ⟨rfl,r⟩
theorem KX.markT (h:KX w m H S U q A) (hj:o.j<S.Ts.length) (x:Int) (c:Bool) :
 Calls Tryz.prog 265 #[wp H.f,wp (H.tb o.j),.int .i64 x,.bool c] w fun y w'=>y=.returned (aH (if aG (ax S o.j) x=true then 0 else 7))∧∃A',KX w' m H (S.files (S.D) o.j (jy (ax S o.j) x c)) U q A'∧Stp w w' A A':=by
 refine (h.desc hj (q':=q) (by omega) (Q:=fun y D' N'=>y=.returned (aH (if aG (ax S o.j) x=true then 0 else 7))∧D'=S.D∧N'=jy (ax S o.j) x c) (fun bs Ad hb e kd=>?_) (fun y D' N' hq=>?_)).mono ?_
 ·have:=kd.mark hb x c
  rw [←iD hj,e] at this
  exact this
 ·obtain ⟨_,rfl,rfl⟩:=hq
  have:=h.nx
  exact this
 ·rintro y w' ⟨D',N',⟨rfl,rfl,rfl⟩,r⟩
  exact ⟨rfl,r⟩
theorem KX.Xd (h:KX w m H S U q A) (hj:o.j<S.Ts.length) (x a:Int) :
 Calls Tryz.prog 63 #[wp H.f,wp (H.tb o.j),.int .i64 x,.int .i64 a] w fun y w'=>y=.returned (.tuple #[tx (dh S.D (ax S o.j) x a).1,aH (dh S.D (ax S o.j) x a).2.1])∧∃A',KX w' m H (S.files ((dh S.D (ax S o.j) x a).2.2) o.j ((ax S o.j))) U q A'∧Stp w w' A A':=by
 refine (h.desc hj (q':=q) (by omega) (Q:=fun y D' N'=>y=.returned (.tuple #[tx (dh S.D (ax S o.j) x a).1,aH (dh S.D (ax S o.j) x a).2.1])∧D'=(dh S.D (ax S o.j) x a).2.2∧N'=(ax S o.j)) (fun bs Ad hb e kd=>?_) (fun y D' N' hq=>?_)).mono ?_
 ·have:=kd.read hb x a
  rw [←iD hj,e] at this
  exact this
 ·obtain ⟨_,rfl,rfl⟩:=hq
  have:=h.nx
  rw [Q5];exact this
 ·rintro y w' ⟨D',N',⟨rfl,rfl,rfl⟩,r⟩
  exact ⟨rfl,r⟩
theorem KX.Ul (h:KX w m H S U q A) (hj:o.j<S.Ts.length) (x:Int) (s:List UInt8) (hs:s.length<100000) (a:Int) :
 Calls Tryz.prog 59 #[wp H.f,wp (H.tb o.j),.int .i64 x,tx s,.int .i64 a] w fun y w'=>y=.returned (.tuple #[.int .i64 (cu S.D (ax S o.j) x s a).1,aH (cu S.D (ax S o.j) x s a).2.1])∧∃A',KX w' m H (S.files ((cu S.D (ax S o.j) x s a).2.2) o.j ((ax S o.j))) U (q+1) A'∧Stp w w' A A':=by
 refine (h.desc hj (q':=(q+1)) (by omega) (Q:=fun y D' N'=>y=.returned (.tuple #[.int .i64 (cu S.D (ax S o.j) x s a).1,aH (cu S.D (ax S o.j) x s a).2.1])∧D'=(cu S.D (ax S o.j) x s a).2.2∧N'=(ax S o.j)) (fun bs Ad hb e kd=>?_) (fun y D' N' hq=>?_)).mono ?_
 ·have:=kd.write hb x s hs a
  rw [←iD hj,e] at this
  refine this.mono ?_
  rintro y w' ⟨D',N',A',hQ,kd',st⟩
  exact ⟨D',N',A',hQ,kd'.more (by omega),st⟩
 ·obtain ⟨_,rfl,rfl⟩:=hq
  have:=h.nx
  rw [NV];omega
 ·rintro y w' ⟨D',N',⟨rfl,rfl,rfl⟩,r⟩
  exact ⟨rfl,r⟩
theorem KX.Vg (h:KX w m H S U q A) (hj:o.j<S.Ts.length) (hq:q≤200) :
 Calls Tryz.prog 250 #[wp H.f,wp (H.tb o.j)] w fun y w'=>y=.returned (.tuple #[])∧∃A',KX w' m H (S.files ((ai true S.D (ax S o.j) 8).1) o.j ((ai true S.D (ax S o.j) 8).2)) U q A'∧Stp w w' A A':=by
 refine (h.desc hj (q':=q) (by omega) (Q:=fun y D' N'=>y=.returned (.tuple #[])∧D'=(ai true S.D (ax S o.j) 8).1∧N'=(ai true S.D (ax S o.j) 8).2) (fun bs Ad hb e kd=>?_) (fun y D' N' hq=>?_)).mono ?_
 ·have:=kd.clear (by omega) hb
  rw [←iD hj,e] at this
  exact this
 ·obtain ⟨_,rfl,rfl⟩:=hq
  have:=h.nx
  rw [vB];exact this
 ·rintro y w' ⟨D',N',⟨rfl,rfl,rfl⟩,r⟩
  exact ⟨rfl,r⟩
theorem KX.Xx (h:KX w m H S U q A) (hj:o.j<S.Ts.length) (hq:q≤200) :
 Calls Tryz.prog 115 #[wp H.f,wp (H.tb o.j)] w fun y w'=>y=.returned (.tuple #[])∧∃A',KX w' m H (S.files ((ai false S.D (ax S o.j) 8).1) o.j ((ai false S.D (ax S o.j) 8).2)) U q A'∧Stp w w' A A':=by
 refine (h.desc hj (q':=q) (by omega) (Q:=fun y D' N'=>y=.returned (.tuple #[])∧D'=(ai false S.D (ax S o.j) 8).1∧N'=(ai false S.D (ax S o.j) 8).2) (fun bs Ad hb e kd=>?_) (fun y D' N' hq=>?_)).mono ?_
 ·have:=kd.exec (by omega) hb
  rw [←iD hj,e] at this
  exact this
 ·obtain ⟨_,rfl,rfl⟩:=hq
  have:=h.nx
  rw [vB];exact this
 ·rintro y w' ⟨D',N',⟨rfl,rfl,rfl⟩,r⟩
  exact ⟨rfl,r⟩
theorem KX.Xg (h:KX w m H S U q A) (hj:o.j<S.Ts.length) (hq:q≤200) {n:Nat}(hN:qR S.D.E n) :
 Calls Tryz.prog 54 #[wp H.f,wp (H.tb o.j)] w fun z w'=>∃D' N',(∃x y c,z=.returned (.tuple #[.int .i64 x,.int .i64 y,aH c])∧qc S.D (ax S o.j) n x y c D' N')∧∃A',KX w' m H (S.files D' o.j N') U (q+1) A'∧Stp w w' A A':=by
 have hx:=h.nx
 refine h.desc hj (q':=q+1) (by omega) (Q:=fun z D' N'=>∃x y c,z=.returned (.tuple #[.int .i64 x,.int .i64 y,aH c])∧qc S.D (ax S o.j) n x y c D' N') (fun bs Ad hb e kd=>?_) (fun y D' N' hq=>?_)
 ·have:=kd.pipe (by omega) hb hN
  rw [←iD hj,e] at this
  refine this.mono ?_
  rintro y w' ⟨D',N',A',hQ,kd',st⟩
  exact ⟨D',N',A',hQ,kd'.more (by omega),st⟩
 ·obtain ⟨x,y,c,_,hP⟩:=hq
  have:=Q6 hP
  omega
theorem KX.bF (h:KX w m H S U q A) (hj:o.j<S.Ts.length) (hq:q≤200) {n s:Nat}(hN:qR S.D.E n) (hs:di S.D.T s) (path:List UInt8) (hp:path.length<100000) (pr:Int) (mk:Bool) :
 Calls Tryz.prog 203 #[wp H.f,wp (H.tb o.j),tx path,.int .i64 pr,.bool mk] w fun z w'=>∃D' N',(∃x c,z=.returned (.tuple #[.int .i64 x,aH c])∧iG S.D (ax S o.j) n s path pr mk x c D' N')∧∃A',KX w' m H (S.files D' o.j N') U (q+1) A'∧Stp w w' A A':=by
 have hx:=h.nx
 refine h.desc hj (q':=q+1) (by omega) (Q:=fun z D' N'=>∃x c,z=.returned (.tuple #[.int .i64 x,aH c])∧iG S.D (ax S o.j) n s path pr mk x c D' N') (fun bs Ad hb e kd=>?_) (fun y D' N' hq=>?_)
 ·have:=kd.file (by omega) (by omega) hb hN hs path hp pr mk
  rw [←iD hj,e] at this
  refine this.mono ?_
  rintro y w' ⟨D',N',A',hQ,kd',st⟩
  exact ⟨D',N',A',hQ,kd'.more (by omega),st⟩
 ·obtain ⟨x,c,_,hP⟩:=hq
  have:=Q8 hP
  omega
theorem KX.GI (h:KX w m H S U q A) {fn:FuncId}{args:Array Value}{Q:Ending→Wd→Prop}
 (hc:∀bs Ad,KD w m H.f H.r S.D bs S.Ts (2*q) Ad→Calls Tryz.prog fn args w fun y w'=>∃T' A',Q y T'∧KD w' m H.f H.r { S.D with T:=T' } bs S.Ts (2*q+1) A'∧Stp w w' Ad A') :
 Calls Tryz.prog fn args w fun y w'=>∃T',Q y T'∧∃A',KX w' m H (S.tree T') U (q+1) A'∧Stp w w' A A':=by
 have hx:=h.nx
 obtain ⟨G,k,e⟩:=h
 refine (hc G.bs G.Ad k.kd).mono ?_
 rintro y w' ⟨T',A',hQ,kd',st⟩
 obtain ⟨G',k',st'⟩:=k.desc (q':=q+1) (kd'.more (by omega)) st rfl (by show S.D.nx≤_;omega) (by omega)
 exact ⟨T',hQ,_,.of k',oZ e st'⟩
theorem KX.proc (h:KX w m H S U q A) {fn:FuncId}{args:Array Value}{Q:Ending→Ps→Prop}
 (hc:∀c,QJ w H.t H.g S.P c→Calls Tryz.prog fn args w fun y w'=>∃P',Q y P'∧GH w H.t H.g P' w') :
 Calls Tryz.prog fn args w fun y w'=>∃P',Q y P'∧∃A',KX w' m H (S.procs P') U q A'∧Stp w w' A A':=by
 obtain ⟨G,k,e⟩:=h
 obtain ⟨c,qj⟩:=k.qj
 refine (hc c qj).mono ?_
 rintro y w' ⟨P',hQ,t⟩
 obtain ⟨G',k',st'⟩:=k.proc t
 exact ⟨P',hQ,_,.of k',oZ e st'⟩
theorem KX.Xc (h:KX w m H S U q A) (hk:H.ok=true) (n:Int) (hn:(Lit.int .i64 n).wf=true):Calls Tryz.prog 75 #[wp H.t,.int .i64 n] w fun y w'=>y=.returned (.int .i64 (aY S.P n))∧∃A',KX w' m H (S.procs (fJ S.P n)) U q A'∧Stp w w' A A':=by
 refine (h.proc (Q:=fun y P'=>y=.returned (.int .i64 (aY S.P n))∧P'=fJ S.P n) (fun c qj=>(qj.take (h.tab.2 hk) n hn).mono ?_)).mono ?_
 ·rintro y w' ⟨rfl,t⟩;exact ⟨_,⟨rfl,rfl⟩,t⟩
 ·rintro y w' ⟨P',⟨rfl,rfl⟩,r⟩;exact ⟨rfl,r⟩
theorem KX.Ty (h:KX w m H S U q A) (n code:Int) (hn:(Lit.int .i64 n).wf=true):Calls Tryz.prog 158 #[wp H.t,.int .i64 n,.int .i64 code] w fun y w'=>y=.returned (aH (jC S.P n))∧∃A',KX w' m H (S.procs (if jC S.P n=0 then dz S.P n code else S.P)) U q A'∧Stp w w' A A':=by
 refine (h.proc (Q:=fun y P'=>y=.returned (aH (jC S.P n))∧P'=if jC S.P n=0 then dz S.P n code else S.P) (fun c qj=>(qj.exit n code hn).mono ?_)).mono ?_
 ·rintro y w' ⟨rfl,t⟩;exact ⟨_,⟨rfl,rfl⟩,t⟩
 ·rintro y w' ⟨P',⟨rfl,rfl⟩,r⟩;exact ⟨rfl,r⟩
theorem KX.Xa (h:KX w m H S U q A) (n:Int) (hn:(Lit.int .i64 n).wf=true):Calls Tryz.prog 113 #[wp H.t,.int .i64 n] w fun y w'=>y=.returned (.tuple #[.int .i64 (bO S.P n).1,.int .i64 (bO S.P n).2.1,aH (bO S.P n).2.2.1])∧∃A',KX w' m H (S.procs (bO S.P n).2.2.2) U q A'∧Stp w w' A A':=by
 refine (h.proc (Q:=fun y P'=>y=.returned (.tuple #[.int .i64 (bO S.P n).1,.int .i64 (bO S.P n).2.1,aH (bO S.P n).2.2.1])∧P'=(bO S.P n).2.2.2) (fun c qj=>(qj.wait n hn).mono ?_)).mono ?_
 ·rintro y w' ⟨rfl,t⟩;exact ⟨_,⟨rfl,rfl⟩,t⟩
 ·rintro y w' ⟨P',⟨rfl,rfl⟩,r⟩;exact ⟨rfl,r⟩
theorem KX.Tg (h:KX w m H S U q A) (n sig:Int) (hn:(Lit.int .i64 n).wf=true):Calls Tryz.prog 61 #[wp H.t,.int .i64 n,.int .i64 sig] w fun y w'=>y=.returned (aH (fF S.P n sig))∧∃A',KX w' m H (S.procs (if fF S.P n sig=0 then jV S.P n sig else S.P)) U q A'∧Stp w w' A A':=by
 refine (h.proc (Q:=fun y P'=>y=.returned (aH (fF S.P n sig))∧P'=if fF S.P n sig=0 then jV S.P n sig else S.P) (fun c qj=>(qj.kill n sig hn).mono ?_)).mono ?_
 ·rintro y w' ⟨rfl,t⟩;exact ⟨_,⟨rfl,rfl⟩,t⟩
 ·rintro y w' ⟨P',⟨rfl,rfl⟩,r⟩;exact ⟨rfl,r⟩
end
section
variable {w w':World}{m:Int}{H:KH}{S:KS}{U:Nat→Nat→Int}{q:Nat}{A:Nat→Prop}{p:Int}{o:Ow}
theorem KX.MQ {A':Nat→Prop}{P':PM}{D':Nat→Nat→Int}(h:KX w m H (S.space o.j P' D') (jM S) q A') (ok:oW S) (ho:S.O p=some o) (hl:S.Ms.length=S.Ts.length) (hj:o.j<S.Ts.length) (hp:bI P'=bI (aK S o.j)):KN w m H (S.space o.j P' D') q A':=
 h.toN (ok.space ho hl _ _) (fun p' o' ho' k hk=>by
  unfold jM
  rw [dM (by omega),oD]
  by_cases e:o'.j=o.j
  ·rw [if_pos e,hp,e]
  ·rw [if_neg e])
theorem KX.AP {A':Nat→Prop}{D':DS}{N':Ns}(h:KX w m H (S.files D' o.j N') (jM S) q A') (ok:oW S) (ho:S.O p=some o) (hj:o.j<S.Ts.length) (hp:aj N'=aj (ax S o.j)):KN w m H (S.files D' o.j N') q A':=
 h.toN (ok.files ho _ _) (fun p' o' ho' k hk=>by
  unfold jM
  rw [fo hj,mh]
  by_cases e:o'.j=o.j
  ·rw [if_pos e,hp,e]
  ·rw [if_neg e])
theorem KX.AB {A':Nat→Prop}{P':Ps}(h:KX w m H (S.procs P') (jM S) q A') (ok:oW S) (hr:∀x,ay P' x=ay S.P x):KN w m H (S.procs P') q A':=⟨h,ok.procs hr⟩
theorem KX.GJ {A':Nat→Prop}{T':Wd}(h:KX w m H (S.tree T') (jM S) q A') (ok:oW S):KN w m H (S.tree T') q A':=⟨h,ok.tree T'⟩
theorem KX.Ol (h:KX w m H S U q A) (ho:S.O p=some o) {V:World}(g:w.grownBy V (some (H.hs o.j))) :
 Calls Tryz.prog 116 #[wp (H.sp o.j)] V fun y w'=>y=.returned (.int .i64 (bI (aK S o.j):Nat))∧w'=V:=by
 have hj:=h.qh ho
 obtain ⟨G,k,e⟩:=h
 have wt:Wt (fun i=>G.κ i=5) w V:=⟨g.os,g.tape,g.output,g.size,fun i hi hn=>g.block i hi (fun e=>hn (by cases e;exact k.k5 p o ho))⟩
 have kp:=k.kept (X:=5) ⟨by omega,by omega⟩ wt
 have al:=kp.al (by omega)
 have hl:o.j<G.L.length:=by rw [k.Ll];exact hj
 have hP:G.L[o.j].2.2=aK S o.j:=by
  rw [vT (by rw [k.len];exact hj)]
  have:S.Ms=G.L.map (fun x=>x.2.2):=k.ms.symm
  simp only [this,List.getElem_map]
 have:=(al.sp o.j hl).sp.len
 rw [k.sp o.j hl,hP] at this
 exact this
theorem KX.Jq (h:KX w m H S U q A) (ho:S.O p=some o) {V:World}(g:w.grownBy V (some (H.hs o.j))) :
 Calls Tryz.prog 118 #[wp (H.tb o.j)] V fun y w'=>y=.returned (.int .i64 (aj (ax S o.j):Int))∧Below V.heap.size V w':=by
 have hj:=h.qh ho
 obtain ⟨G,k,e⟩:=h
 have wt:Wt (fun i=>G.κ i=5) w V:=⟨g.os,g.tape,g.output,g.size,fun i hi hn=>g.block i hi (fun e=>hn (by cases e;exact k.k5 p o ho))⟩
 have kp:=k.kept (X:=5) ⟨by omega,by omega⟩ wt
 have kd:=kp.kd (by omega)
 have hb:o.j<G.bs.length:=by rw [k.Lb];exact hj
 have:=kd.used hb
 rw [k.tb _ hb,←iD hj] at this
 exact this
theorem KX.settle (h:KX w m H S U q A) (ok:oW S) (ho:S.O p=some o) (hU:Fit (U o.j)) (h0:((bI (aK S o.j):Nat):Int)≤U o.j 0) (h1:((aj (ax S o.j):Nat):Int)≤U o.j 1) (h2:U o.j 2=0) (hr:∀p' o',S.O p'=some o'→o'.j≠o.j→∀k,k<3→U o'.j k=jM S o'.j k) :
 Calls Tryz.prog 58 #[wp (H.hs o.j)] w fun y w'=>y=.returned (.tuple #[])∧∃A',KN w' m H S q A'∧Stp w w' A A':=by
 refine ((h.hd ho).settle hU (ok.fit p o ho).1 h.er (h.hne ho) ⟨by omega,h0⟩ ⟨by omega,h1⟩ (fun V g=>h.Ol ho g) (fun V g=>h.Jq ho g)).mono ?_
 rintro y w' ⟨rfl,hd,g⟩
 obtain ⟨A',h',st⟩:=h.led ho hd g
 refine ⟨rfl,A',h'.toN ok (fun p' o' ho' k hk=>?_),st⟩
 by_cases e:o'.j=o.j
 ·simp only [if_pos e]
  unfold Mc jM
  rw [e]
  match k,hk with
  |0,_=>rfl
  |1,_=>rfl
  |2,_=>simpa using h2
 ·simp only [if_neg e]
  exact hr p' o' ho' e k hk
theorem FU (P:PM) (a af:Int) (n:Nat):bI (gY P a n af)=bI P:=sumTo_congr _ _ (fun i _ _=>by
 unfold gY
 split
 ·cases P (i:Int)<;>rfl
 ·rfl)
theorem Ki (P:PM) (a n af:Int):bI (qY P a n af)=bI P:=by
 unfold qY
 split
 ·exact FU _ _ _ _
 ·rfl
theorem Np {P:PM}{a n:Int}(h:u6 P a n=0):1≤n∧0≤a∧a+n≤64∧¬gU P a n.toNat<n.toNat:=by
 unfold u6 at h
 split at h
 ·omega
 ·rename_i h1
  split at h
  ·omega
  ·rename_i h2
   obtain ⟨a1,a2,a3⟩:=jP.1 (by simpa using h1)
   exact ⟨a1,a2,a3,h2⟩
theorem Oj (P:PM) (a n:Int):bI (EC P a n)≤bI P:=by
 unfold EC
 split
 ·rename_i h
  obtain ⟨h1,h2,h3,h4⟩:=Np h
  have:=zG h2 n.toNat (by omega) (fun i hi=>rP h4 i hi)
  omega
 ·exact Nat.le_refl _
def I5 (S:KS) (o:Ow) (a n:Int):KS:=S.space o.j (EC (aK S o.j) a n) S.W
theorem KN.Js (h:KN w m H S q A) (ho:S.O p=some o) (a n:Int) (hn:n≤9223372036854775807) :
 Calls Tryz.prog 95 #[wp H.kb,.int .i64 p,.int .i64 a,.int .i64 n] w fun y w'=>y=.returned (aH (u6 (aK S o.j) a n))∧∃A',KN w' m H (I5 S o a n) q A'∧Stp w w' A A':=by
 have hF:=h.1.aB ho
 have hj:=h.1.qh ho
 have sw:=h.1.mlt ho
 have d0:w.cell? ⟨H.hs o.j,0,none⟩=some (wp (H.sp o.j)):=(h.1.hd ho).at 0
 have hU:Calls Tryz.prog 129 #[wp (H.sp o.j),.int .i64 a,.int .i64 n] w fun y w'=>y=.returned (aH (u6 (aK S o.j) a n))∧(u6 (aK S o.j) a n≠0→∃A',KN w' m H (I5 S o a n) q A'∧Stp w w' A A')∧(u6 (aK S o.j) a n=0→Calls Tryz.prog 58 #[wp (H.hs o.j)] w' fun y w2=>y=.returned (.tuple #[])∧∃A',KN w2 m H (I5 S o a n) q A'∧Stp w w2 A A'):=by
  refine (h.1.vS hj a n hn).mono ?_
  rintro y w1 ⟨rfl,A1,h1,st1⟩
  refine ⟨rfl,fun hc=>?_,fun hc=>?_⟩
  ·have e:EC (aK S o.j) a n=aK S o.j:=if_neg hc
   unfold I5
   rw [e,nD sw] at h1 ⊢
   exact ⟨A1,⟨h1,h.2⟩,st1⟩
  ·refine (h1.settle (h.2.space ho h.1.len _ _) (p:=p) (o:=o) ho (h.1.ET o.j) ?_ ?_ rfl (fun p' o' ho' hne k hk=>?_)).mono ?_
   ·rw [dM sw,if_pos rfl]
    have:=Oj (aK S o.j) a n
    show _≤((bI (aK S o.j):Nat):Int)
    omega
   ·exact Int.le_refl _
   ·unfold jM
    rw [dM sw,if_neg hne,oD]
   ·rintro y w2 ⟨rfl,A2,h2,st2⟩
    exact ⟨rfl,A2,h2,st1.trans st2⟩
 generalize I5 S o a n=S2 at *
 generalize u6 (aK S o.j) a n=E at *
 clear h ho hj sw
 go_enter Tryz.func95,Tryz.ntmps95
 go_upto_region 5 with (first
  |(go_at_call 51;refine hF.mono ?_;rintro e w1 ⟨rfl,hw⟩;subst w1)
  |(go_at_call 129;refine hU.mono ?_;rintro e w1 ⟨rfl,hx1,hx0⟩))
 have X1:Aside _:=hx1
 have X0:Aside _:=hx0
 clear hx1 hx0 hF hU d0
 by_cases hE:E=0
 ·have hs:=X0.out hE
  clear X1 X0
  subst hE
  rw [aC]
  go_wp2_with (go_at_call 58;refine hs.mono ?_;rintro e w2 ⟨rfl,hR⟩)
  go_ret
  exact ⟨rfl,hR⟩
 ·have hR:=X1.out hE
  have HE:Aside (E≠0):=hE
  rw [az hE]
  clear X1 X0 hE
  go_wp2_with fail
  go_ret
  exact ⟨by rw [az HE.out];rfl,hR⟩
theorem KN.Eh (h:KN w m H S q A) (ho:S.O p=some o) (a n af:Int) (hn:n≤9223372036854775807) :
 Calls Tryz.prog 96 #[wp H.kb,.int .i64 p,.int .i64 a,.int .i64 n,.int .i64 af] w fun y w'=>y=.returned (aH (nW (aK S o.j) a n af))∧∃A',KN w' m H (S.space o.j (qY (aK S o.j) a n af) S.W) q A'∧Stp w w' A A':=by
 have hF:=h.1.aB ho
 have hj:=h.1.qh ho
 have d0:w.cell? ⟨H.hs o.j,0,none⟩=some (wp (H.sp o.j)):=(h.1.hd ho).at 0
 have hU:Calls Tryz.prog 188 #[wp (H.sp o.j),.int .i64 a,.int .i64 n,.int .i64 af] w fun y w'=>y=.returned (aH (nW (aK S o.j) a n af))∧∃A',KN w' m H (S.space o.j (qY (aK S o.j) a n af) S.W) q A'∧Stp w w' A A':=by
  refine (h.1.o6 hj a n af hn).mono ?_
  rintro y w1 ⟨rfl,A1,h1,st1⟩
  exact ⟨rfl,A1,h1.MQ h.2 ho h.1.len hj (Ki _ _ _ _),st1⟩
 generalize S.space o.j (qY (aK S o.j) a n af) S.W=S2 at *
 generalize nW (aK S o.j) a n af=E at *
 clear h ho hj
 go_enter Tryz.func96,Tryz.ntmps96
 go_wp2_with (first
  |(go_at_call 51;refine hF.mono ?_;rintro e w1 ⟨rfl,hw⟩;subst w1)
  |(go_at_call 188;refine hU.mono ?_;rintro e w1 ⟨rfl,hR⟩))
 go_ret
 exact ⟨rfl,hR⟩
theorem KX.Dl (h:KX w m H S U q A) (ho:S.O p=some o) (a k:Int) (ha:(Lit.int .i64 a).wf=true) :
 Calls Tryz.prog 44 #[wp H.kb,.int .i64 p,.int .i64 a,.int .i64 k] w fun y w'=>y=.returned (.tuple #[.int .i64 (gI (aK S o.j) S.W a k),aH (eu (aK S o.j) a k 1)])∧Below w.heap.size w w':=by
 have hF:=h.aB ho
 have hj:=h.qh ho
 have d0:w.cell? ⟨H.hs o.j,0,none⟩=some (wp (H.sp o.j)):=(h.hd ho).at 0
 have hU:=h.Xp hj a k ha
 generalize gI (aK S o.j) S.W a k=X at *
 generalize eu (aK S o.j) a k 1=E at *
 clear h ho hj
 go_enter Tryz.func44,Tryz.ntmps44
 go_wp2_with (first
  |(go_at_call 51;refine hF.mono ?_;rintro e w1 ⟨rfl,hw⟩;subst w1)
  |(go_at_call 124;refine hU.mono ?_;rintro e w1 ⟨rfl,hR⟩))
 go_ret2
 exact ⟨rfl,hR⟩
def GQ (S:KS) (p:Int) (o:Ow) (k n:Int):KS:=S.own p ⟨o.j,vO o.m k n,o.dO⟩
theorem Oh {M:Nat→Int}(h:Fit M) (k n:Int):Fit (vO M k n):=by
 unfold vO
 split
 ·rename_i e
  have hn:0≤n∧n≤1000000:=by
   unfold qm at e
   split at e
   ·omega
   ·split at e
    ·omega
    ·rename_i z;exact Classical.not_not.1 z
  exact h.put _ _ hn.1 hn.2
 ·exact h
theorem KX.ql {A':Nat→Prop}{M':Nat→Int}{a':Int}(h:KX w m H (S.own p ⟨o.j,M',a'⟩) (fun i=>if i=o.j then jM S o.j else jM S i) q A') (ok:oW S) (ho:S.O p=some o) (hM:Fit M') (ha:-100≤a'∧a'≤100):KN w m H (S.own p ⟨o.j,M',a'⟩) q A':=
 h.toN (ok.own ho hM ha) (fun p' o' ho' k hk=>by
  show (if o'.j=o.j then jM S o.j else jM S o'.j) k=jM S o'.j k
  split
  ·rename_i e;rw [e]
  ·rfl)
theorem KN.Kg (h:KN w m H S q A) (ho:S.O p=some o) (k n:Int) :
 Calls Tryz.prog 41 #[wp H.kb,.int .i64 p,.int .i64 k,.int .i64 n] w fun y w'=>y=.returned (aH (qm k n))∧∃A',KN w' m H (GQ S p o k n) q A'∧Stp w w' A A':=by
 have hF:=h.1.aB ho
 have hU:Calls Tryz.prog 120 #[lq (H.hs o.j),.int .i64 k,.int .i64 n] w fun y w'=>y=.returned (aH (qm k n))∧∃A',KN w' m H (GQ S p o k n) q A'∧Stp w w' A A':=by
  refine ((h.1.hd ho).limit k n).mono ?_
  rintro y w1 ⟨rfl,hd,g⟩
  obtain ⟨A1,h1,st1⟩:=h.1.hold ho hd g
  exact ⟨rfl,A1,h1.ql h.2 ho (Oh (h.2.fit p o ho).1 k n) (h.2.fit p o ho).2,st1⟩
 generalize GQ S p o k n=S2 at *
 generalize qm k n=E at *
 clear h ho
 go_enter Tryz.func41,Tryz.ntmps41
 go_wp2_with (first
  |(go_at_call 51;refine hF.mono ?_;rintro e w1 ⟨rfl,hw⟩;subst w1)
  |(go_at_call 120;refine hU.mono ?_;rintro e w1 ⟨rfl,hR⟩))
 go_ret
 exact ⟨rfl,hR⟩
def Mi (n:Int):Int:=if -100≤n∧n≤100 then 0 else 2
def uC (S:KS) (p:Int) (o:Ow) (n:Int):KS:=if Mi n=0 then S.own p ⟨o.j,o.m,n⟩ else S
theorem KN.GA (h:KN w m H S q A) (ho:S.O p=some o) (n:Int) :
 Calls Tryz.prog 94 #[wp H.kb,.int .i64 p,.int .i64 n] w fun y w'=>y=.returned (aH (Mi n))∧∃A',KN w' m H (uC S p o n) q A'∧Stp w w' A A':=by
 have hF:=h.1.aB ho
 have hd:=h.1.hd ho
 by_cases hn:-100≤n∧n≤100
 ·have e0:Mi n=0:=if_pos hn
  have e1:uC S p o n=S.own p ⟨o.j,o.m,n⟩:=if_pos e0
  obtain ⟨A1,h1,st1⟩:=h.1.hold ho (hd.Sz n) (bL w (H.hs o.j) 8 (.int .i64 n))
  have fin:=jB (⟨A1,h1.ql h.2 ho (h.2.fit p o ho).1 hn,st1⟩:∃A',KN (w.setCell ⟨H.hs o.j,8,none⟩ (.int .i64 n)) m H (S.own p ⟨o.j,o.m,n⟩) q A'∧Stp w (w.setCell ⟨H.hs o.j,8,none⟩ (.int .i64 n)) A A')
  have c8:w.cell? ⟨H.hs o.j,8,none⟩=some (.int .i64 o.dO):=hd.at 8
  have f8:=hd.free 8
  rw [e0,e1,aC]
  obtain ⟨g1,g2⟩:=hn
  generalize S.own p ⟨o.j,o.m,n⟩=S2 at *
  clear h ho hd e0 e1 h1 st1
  go_enter Tryz.func94,Tryz.ntmps94
  go_wp2_with (go_at_call 51;refine hF.mono ?_;rintro e w1 ⟨rfl,hw⟩;subst w1)
  go_ret
  exact ⟨rfl,fin.out⟩
 ·have e0:Mi n=2:=if_neg hn
  have e1:uC S p o n=S:=by unfold uC;rw [e0];rfl
  rw [e0,e1,az (by omega)]
  have HN:Aside _:=(⟨A,h,Stp.refl _ _⟩:∃A',KN w m H S q A'∧Stp w w A A')
  by_cases g1:n < -100
  ·clear h ho hd e0 e1 hn
   go_enter Tryz.func94,Tryz.ntmps94
   go_wp2_with (go_at_call 51;refine hF.mono ?_;rintro e w1 ⟨rfl,hw⟩;subst w1)
   go_ret
   exact ⟨rfl,HN.out⟩
  ·have g2:100<n:=by omega
   clear h ho hd e0 e1 hn
   go_enter Tryz.func94,Tryz.ntmps94
   go_wp2_with (go_at_call 51;refine hF.mono ?_;rintro e w1 ⟨rfl,hw⟩;subst w1)
   go_ret
   exact ⟨rfl,HN.out⟩
theorem Bc {P:Ps}{n:Int}{f:Pr→Pr}(hf:∀q,(f q).state=q.state) (x:Int):ay (qV P n f) x=ay P x:=fU (EZ hf x)
theorem zi (P:Ps) (n sig x:Int):ay (if fF P n sig=0 then jV P n sig else P) x=ay P x:=by
 split
 ·unfold jV
  refine Bc (fun q=>?_) x
  split<;>rfl
 ·rfl
theorem JM (P:Ps) (n x:Int):ay (fJ P n) x=ay P x:=by
 unfold fJ
 split
 ·rfl
 ·refine Bc (fun q=>?_) x
  rfl
theorem JL {P:Ps}(n x:Int):ay (bO P n).2.2.2 x=ay P x:=by
 unfold bO
 split
 ·rfl
 ·split
  ·rename_i y hy
   obtain ⟨_,h2,_⟩:=Ji hy
   show ay (sO P y) x=ay P x
   by_cases e:x=y
   ·subst e
    unfold ay
    rw [h2,j4 (by unfold sO;rw [if_pos rfl])]
    rfl
   ·refine fU ?_
    unfold gJ
    rw [BC e]
  ·rfl
theorem KN.Oq (h:KN w m H S q A) (ho:S.O p=some o) (n sig:Int) (hn:(Lit.int .i64 n).wf=true) :
 Calls Tryz.prog 92 #[wp H.kb,.int .i64 p,.int .i64 n,.int .i64 sig] w fun y w'=>y=.returned (aH (fF S.P n sig))∧∃A',KN w' m H (S.procs (if fF S.P n sig=0 then jV S.P n sig else S.P)) q A'∧Stp w w' A A':=by
 have hF:=h.1.aB ho
 have c3:=h.1.c3
 have hU:Calls Tryz.prog 61 #[wp H.t,.int .i64 n,.int .i64 sig] w fun y w'=>y=.returned (aH (fF S.P n sig))∧∃A',KN w' m H (S.procs (if fF S.P n sig=0 then jV S.P n sig else S.P)) q A'∧Stp w w' A A':=by
  refine (h.1.Tg n sig hn).mono ?_
  rintro y w1 ⟨rfl,A1,h1,st1⟩
  exact ⟨rfl,A1,h1.AB h.2 (fun x=>zi _ _ _ _),st1⟩
 generalize S.procs (if fF S.P n sig=0 then jV S.P n sig else S.P)=S2 at *
 generalize fF S.P n sig=E at *
 clear h ho
 go_enter Tryz.func92,Tryz.ntmps92
 go_wp2_with (first
  |(go_at_call 51;refine hF.mono ?_;rintro e w1 ⟨rfl,hw⟩;subst w1)
  |(go_at_call 61;refine hU.mono ?_;rintro e w1 ⟨rfl,hR⟩))
 go_ret
 exact ⟨rfl,hR⟩
theorem KN.CJ (h:KN w m H S q A) (ho:S.O p=some o) :
 Calls Tryz.prog 36 #[wp H.kb,.int .i64 p] w fun y w'=>y=.returned (.tuple #[.int .i64 (bO S.P p).1,.int .i64 (bO S.P p).2.1,aH (bO S.P p).2.2.1])∧∃A',KN w' m H (S.procs (bO S.P p).2.2.2) q A'∧Stp w w' A A':=by
 have hF:=h.1.aB ho
 have c3:=h.1.c3
 have hU:Calls Tryz.prog 113 #[wp H.t,.int .i64 p] w fun y w'=>y=.returned (.tuple #[.int .i64 (bO S.P p).1,.int .i64 (bO S.P p).2.1,aH (bO S.P p).2.2.1])∧∃A',KN w' m H (S.procs (bO S.P p).2.2.2) q A'∧Stp w w' A A':=by
  refine (h.1.Xa p (EL (h.1.key ho))).mono ?_
  rintro y w1 ⟨rfl,A1,h1,st1⟩
  exact ⟨rfl,A1,h1.AB h.2 (fun x=>JL _ _),st1⟩
 generalize S.procs (bO S.P p).2.2.2=S2 at *
 generalize (bO S.P p).2.2.1=E at *
 generalize (bO S.P p).2.1=E1 at *
 generalize (bO S.P p).1=E2 at *
 clear h ho
 go_enter Tryz.func36,Tryz.ntmps36
 go_wp2_with (first
  |(go_at_call 51;refine hF.mono ?_;rintro e w1 ⟨rfl,hw⟩;subst w1)
  |(go_at_call 113;refine hU.mono ?_;rintro e w1 ⟨rfl,hR⟩))
 go_ret3
 exact ⟨rfl,hR⟩
end
section
variable {D:DS}{Ts:List Ns}{k j i:Nat}{d:Int}{e:En}
theorem Fy {N:Ns}(h:∀x∈N,¬0<x.1):aj N=0:=by
 unfold aj
 rw [List.length_eq_zero_iff,List.filter_eq_nil_iff]
 intro x hx
 simp only [decide_eq_true_eq]
 exact h x hx
theorem ui (D:DS) (N:Ns):∀i y,y<i→∀z,(ai true D N i).2[y]? = some z→¬0<z.1
 |0,y,hy,_,_=>by omega
 |i+1,y,hy,z,hz=>by
  rw [ai] at hz
  have hN:=(gy true D N i).2 i (Nat.le_refl _)
  split at hz
  ·simp only at hz
   by_cases e:i=y
   ·subst e
    rw [List.getElem?_set_self'] at hz
    cases h9:(ai true D N i).2[i]? with
    |none=>rw [h9] at hz;cases hz
    |some q=>rw [h9] at hz;cases hz;simp
   ·rw [List.getElem?_set_ne e] at hz
    exact ui D N i y (by omega) z hz
  ·rename_i hc
   by_cases e:y=i
   ·subst e
    rw [hN] at hz
    intro h0
    apply hc
    rw [List.getD_eq_getElem?_getD,hz]
    exact ⟨h0,.inl rfl⟩
   ·exact ui D N i y (by omega) z hz
theorem KA (D:DS) {N:Ns}(h8:N.length=8):aj (ai true D N 8).2=0:=Fy (fun x hx=>by
 obtain ⟨y,hy,rfl⟩:=List.getElem_of_mem hx
 exact ui D N 8 y (by rw [(gy true D N 8).1,h8] at hy;exact hy) _ (List.getElem?_eq_getElem hy))
end
end Go.Proofs.YtcfhanoekniaaaaGreatDoor

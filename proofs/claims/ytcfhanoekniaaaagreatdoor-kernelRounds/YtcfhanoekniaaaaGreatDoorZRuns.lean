/- What may be asked of a kernel, and what comes of it: by the contracts of its calls, for who runs and who does not. -/
import Derived.Test.YtcfhanoekniaaaaGreatDoorZTalks
import Derived.Test.YtcfhanoekniaaaaGreatDoorZNo
import Derived.Test.YtcfhanoekniaaaaGreatDoorZWrite
import Derived.Test.YtcfhanoekniaaaaGreatDoorZPipe
import Derived.Test.YtcfhanoekniaaaaGreatDoorPick
import Derived.Deep.RegionHeld3
import Derived.BigQuiet
import Derived.Deep.LoopGhost
import Derived.Test.YtcfhanoekniaaaaGreatDoorJProg4
import Derived.Deep.DeepCutAuto
import Derived.Deep.CutBlock
set_option maxHeartbeats 8000000
set_option maxRecDepth 100000
namespace Go.Proofs.YtcfhanoekniaaaaGreatDoor
open Go.RowKit Go.Maps
inductive aX (S:KS) (p a b c:Int) (s t:List UInt8):Int→Int→KS→Prop
 |nobody {W:Int}(ho:S.O p=none) (hW:0≤W∧W≤27):aX S p a b c s t W 7 S
 |other {W:Int}(hW:¬(0≤W∧W≤27)):aX S p a b c s t W 0 S
 |full {W:Int}{o:Ow}(hW:W=0∨W=1) (ho:S.O p=some o) (hc:24≤(af S.P).length):aX S p a b c s t W 12 S
 |fork {W:Int}{o:Ow}(hW:W=0∨W=1) (ho:S.O p=some o) (hc:(af S.P).length<24):aX S p a b c s t W 0 (dx S p o)
 |exit {o:Ow}(ho:S.O p=some o):aX S p a b c s t 2 (tN p) (nC S p o a)
 |exec {o:Ow}(ho:S.O p=some o):aX S p a b c s t 3 0 (Be S o)
 |wait {o:Ow}(ho:S.O p=some o):aX S p a b c s t 4 (aI S.P p).2.2.1 (S.procs (aI S.P p).2.2.2)
 |map {W:Int}{o:Ow}(hW:W=5∨W=6) (ho:S.O p=some o):aX S p a b c s t W (oC S o a b c) (jy S o a b c)
 |uI {o:Ow}(ho:S.O p=some o):aX S p a b c s t 7 (vD (aK S o.j) a b) (Jr S o a b)
 |store {W:Int}{o:Ow}{went:List Int}{er:Int}{S':KS}(hW:W=8∨W=9∨W=10) (ho:S.O p=some o) (r:fM p a b c S went er S'):aX S p a b c s t W er S'
 |file {W:Int}{o:Ow}{n k:Nat}{pr x e:Int}{S':KS}(hW:W=11∨W=12) (ho:S.O p=some o) (hn:qa S.D.E n) (hk:dm S.D.T k) (r:M7 S o n k s pr true x e S'):aX S p a b c s t W e S'
 |pipe {o:Ow}{n:Nat}{x y e:Int}{S':KS}(ho:S.O p=some o) (hn:qa S.D.E n) (r:wB S o n x y e S'):aX S p a b c s t 13 e S'
 |dup {o:Ow}(ho:S.O p=some o):aX S p a b c s t 14 (yZ S o a) (qi S o a)
 |dup2 {o:Ow}(ho:S.O p=some o):aX S p a b c s t 15 (lT S o a b) (iB S o a b)
 |close {o:Ow}(ho:S.O p=some o):aX S p a b c s t 16 (if aH (ax S o.j) a=true then 0 else 7) (rU S o a)
 |write {o:Ow}(ho:S.O p=some o):aX S p a b c s t 17 (CB S o a s).2.1 (jh S p o a s)
 |read {o:Ow}(ho:S.O p=some o):aX S p a b c s t 18 (dz S.D (ax S o.j) a b).2.1 (S.files (dz S.D (ax S o.j) a b).2.2 o.j (ax S o.j))
 |limit {o:Ow}(ho:S.O p=some o):aX S p a b c s t 19 (qA a b) (Ht S p o a b)
 |kill {o:Ow}(ho:S.O p=some o):aX S p a b c s t 20 (fP S.P a b) (S.procs (if fP S.P a b=0 then ku S.P a b else S.P))
 |signal {o:Ow}(ho:S.O p=some o) (h1:p≠1) (hs:bu S.P p≠0):aX S p a b c s t 21 0 (aM (S.procs (fU S.P p)) p o (100+bu S.P p))
 |quiet {o:Ow}(ho:S.O p=some o) (hs:bu S.P p=0):aX S p a b c s t 21 0 S
 |first {o:Ow}(ho:S.O p=some o) (h1:p=1):aX S p a b c s t 21 0 (S.procs (AZ S.P 1))
 |CX {o:Ow}{k:Nat}{e:Int}{T':Wd}(ho:S.O p=some o) (hk:dm S.D.T k) (r:QH S.D.T k s e T'):aX S p a b c s t 22 e (S.tree T')
 |unlink {o:Ow}(ho:S.O p=some o):aX S p a b c s t 23 (eH S.D.T s) (S.tree (eG S.D.T s))
 |rename {o:Ow}(ho:S.O p=some o):aX S p a b c s t 24 (fw S.D.T s t) (S.tree (eO S.D.T s t))
 |nE {o:Ow}(ho:S.O p=some o):aX S p a b c s t 25 (oq (aK S o.j) a b c) (S.space o.j (ru (aK S o.j) a b c) S.W)
 |mark {o:Ow}(yes:Bool) (ho:S.O p=some o):aX S p a b c s t 26 (if aH (ax S o.j) a=true then 0 else 7) (S.files S.D o.j (jJ (ax S o.j) a yes))
 |wK {o:Ow}(ho:S.O p=some o):aX S p a b c s t 27 (MN a) (uM S p o a)
def sU (w:World) (m:Int) (H:KH) (q:Nat) (A:Nat→Prop) (S':KS) (w':World):Prop:=∃H' A',(H'.kb=H.kb∧H'.ok=H.ok)∧KN w' m H' S' (q+1) A'∧Stp w w' A A'
def bF (w:World) (m:Int) (H:KH) (S:KS) (q:Nat) (A:Nat→Prop) (p a b c:Int) (s t:List UInt8) (W:Int) (y:Ending) (w':World):Prop:=
 ∃e S',y=.returned (aJ e)∧aX S p a b c s t W e S'∧sU w m H q A S' w'
section
variable {w w' V:World}{m:Int}{H:KH}{S S':KS}{U:Nat→Nat→Int}{q q':Nat}{A A':Nat→Prop}{p a b c:Int}{s t:List UInt8}{o:Ow}
theorem sU.mk (h:KN w' m H S' q' A') (hq:q'≤q+1) (st:Stp w w' A A'):sU w m H q A S' w':=⟨H,A',⟨rfl,rfl⟩,h.more hq,st⟩
theorem sU.same (h:KN w m H S q A) (hb:Below w.heap.size w w'):sU w m H q A S w':=.mk (h.below hb) (by omega) (.below hb)
theorem sU.before (h:sU V m H q A S' w') (hb:Below w.heap.size w V):sU w m H q A S' w':=by
 obtain ⟨H',A',e,k,st⟩:=h
 exact ⟨H',A',e,k,Stp.after hb st⟩
theorem sU.asw (h:sU V m H q A S' w') (e:V.heap=w.heap) (e1:V.os=w.os) (e2:V.tape=w.tape) (e3:V.output=w.output):sU w m H q A S' w':=by
 obtain ⟨H',A',k,n,st⟩:=h
 exact ⟨H',A',k,n,st.base e e1 e2 e3⟩
theorem sU.cell (h:sU w m H q A S' w') {x i:Nat}{v:Value}(hx:¬A x) (hc:w.cell? ⟨x,i,none⟩=some v):w'.cell? ⟨x,i,none⟩=some v:=by
 obtain ⟨H',A',k,n,st⟩:=h
 exact (st.aW hc hx).1
theorem Ei (h:KN w m H S q A) (hq:q≤90) (hp:(Lit.int .i64 p).wf=true) {W:Int}(hW:W=0∨W=1) :
 Calls Tryz.prog 14 #[wp H.kb,.int .i64 p] w fun y w'=>∃n e S',y=.returned (.tuple #[.int .i64 n,aJ e])∧aX S p a b c s t W e S'∧sU w m H q A S' w':=by
 cases ho:S.O p with
 |none=>
  refine (h.1.I4 ho hp).mono ?_
  rintro y w' ⟨rfl,rfl⟩
  exact ⟨0,7,S,rfl,.nobody ho (by omega),.same h (Below.refl _ _)⟩
 |some o=>
  rcases Nat.lt_or_ge (af S.P).length 24 with hc|hc
  ·refine (h.BN ho hq hc).mono ?_
   rintro y w' ⟨rfl,H',A',e,k,st⟩
   exact ⟨_,0,_,rfl,.fork hW ho hc,H',A',e,k,st⟩
  ·refine (h.Aa ho hc).mono ?_
   rintro y w' ⟨rfl,A',k,st⟩
   exact ⟨_,12,_,rfl,.full hW ho hc,.mk k (by omega) st⟩
theorem PG (h:KN w m H S q A) (hq:q≤90) (hp:(Lit.int .i64 p).wf=true) :
 Calls Tryz.prog 20 #[wp H.kb,.int .i64 p,.int .i64 a] w (bF w m H S q A p a b c s t 2):=by
 cases ho:S.O p with
 |none=>
  refine (h.1.Sn ho hp a).mono ?_
  rintro y w' ⟨rfl,rfl⟩
  exact ⟨7,S,rfl,.nobody ho (by omega),.same h (Below.refl _ _)⟩
 |some o=>
  refine (h.xe ho (by omega) a).mono ?_
  rintro y w' ⟨rfl,A',k,st⟩
  exact ⟨_,_,rfl,.exit ho,.mk k (by omega) st⟩
theorem PH (h:KN w m H S q A) (hq:q≤90) (hp:(Lit.int .i64 p).wf=true) :
 Calls Tryz.prog 37 #[wp H.kb,.int .i64 p] w (bF w m H S q A p a b c s t 3):=by
 cases ho:S.O p with
 |none=>
  refine (h.1.Su ho hp).mono ?_
  rintro y w' ⟨rfl,rfl⟩
  exact ⟨7,S,rfl,.nobody ho (by omega),.same h (Below.refl _ _)⟩
 |some o=>
  refine (h.O8 ho (by omega)).mono ?_
  rintro y w' ⟨rfl,A',k,st⟩
  exact ⟨0,_,rfl,.exec ho,.mk k (by omega) st⟩
theorem Px (h:KN w m H S q A) (hp:(Lit.int .i64 p).wf=true) :
 Calls Tryz.prog 36 #[wp H.kb,.int .i64 p] w fun y w'=>∃n k e S',y=.returned (.tuple #[.int .i64 n,.int .i64 k,aJ e])∧aX S p a b c s t 4 e S'∧sU w m H q A S' w':=by
 cases ho:S.O p with
 |none=>
  refine (h.1.Bj ho hp).mono ?_
  rintro y w' ⟨rfl,rfl⟩
  exact ⟨0,0,7,S,rfl,.nobody ho (by omega),.same h (Below.refl _ _)⟩
 |some o=>
  refine (h.Db ho).mono ?_
  rintro y w' ⟨rfl,A',k,st⟩
  exact ⟨_,_,_,_,rfl,.wait ho,.mk k (by omega) st⟩
theorem any_map (h:KN w m H S q A) (hp:(Lit.int .i64 p).wf=true) (hb:b≤9223372036854775807) {W:Int}(hW:W=5∨W=6) :
 Calls Tryz.prog 45 #[wp H.kb,.int .i64 p,.int .i64 a,.int .i64 b,.int .i64 c] w (bF w m H S q A p a b c s t W):=by
 cases ho:S.O p with
 |none=>
  refine (h.1.Vy ho hp a b c).mono ?_
  rintro y w' ⟨rfl,hb'⟩
  exact ⟨7,S,rfl,.nobody ho (by omega),.same h hb'⟩
 |some o=>
  refine (h.II ho a b c hb).mono ?_
  rintro y w' ⟨rfl,A',k,st⟩
  exact ⟨_,_,rfl,.map hW ho,.mk k (by omega) st⟩
theorem LY (h:KN w m H S q A) (hp:(Lit.int .i64 p).wf=true) (hb:b≤9223372036854775807) :
 Calls Tryz.prog 95 #[wp H.kb,.int .i64 p,.int .i64 a,.int .i64 b] w (bF w m H S q A p a b c s t 7):=by
 cases ho:S.O p with
 |none=>
  refine (h.1.NM ho hp a b).mono ?_
  rintro y w' ⟨rfl,rfl⟩
  exact ⟨7,S,rfl,.nobody ho (by omega),.same h (Below.refl _ _)⟩
 |some o=>
  refine (h.JR ho a b hb).mono ?_
  rintro y w' ⟨rfl,A',k,st⟩
  exact ⟨_,_,rfl,.uI ho,.mk k (by omega) st⟩
theorem EW (h:KN w m H S q A) (hp:(Lit.int .i64 p).wf=true) (hb:b≤9223372036854775807) :
 Calls Tryz.prog 96 #[wp H.kb,.int .i64 p,.int .i64 a,.int .i64 b,.int .i64 c] w (bF w m H S q A p a b c s t 25):=by
 cases ho:S.O p with
 |none=>
  refine (h.1.Gc ho hp a b c).mono ?_
  rintro y w' ⟨rfl,rfl⟩
  exact ⟨7,S,rfl,.nobody ho (by omega),.same h (Below.refl _ _)⟩
 |some o=>
  refine (h.EG ho a b c hb).mono ?_
  rintro y w' ⟨rfl,A',k,st⟩
  exact ⟨_,_,rfl,.nE ho,.mk k (by omega) st⟩
theorem uE (h:KN w m H S q A) (hq:q≤90) (hp:(Lit.int .i64 p).wf=true) (ha:(Lit.int .i64 a).wf=true) {W:Int}(hW:W=8∨W=9∨W=10) :
 Calls Tryz.prog 42 #[wp H.kb,.int .i64 p,.int .i64 a,.int .i64 b,.int .i64 c] w fun y w'=>∃v e S',y=.returned (.tuple #[v,aJ e])∧aX S p a b c s t W e S'∧sU w m H q A S' w':=by
 cases ho:S.O p with
 |none=>
  refine (h.1.NY ho hp a b c).mono ?_
  rintro y w' ⟨rfl,rfl⟩
  exact ⟨_,7,S,rfl,.nobody ho (by omega),.same h (Below.refl _ _)⟩
 |some o=>
  refine (h.zy ho (by omega) a b c ha).mono ?_
  rintro y w' ⟨vw,er,rfl,went,S',A',r,_,k,st⟩
  exact ⟨_,_,_,rfl,.store hW ho r,.mk k (by omega) st⟩
theorem Ej (h:KN w m H S q A) (hq:q≤90) (hp:(Lit.int .i64 p).wf=true) (hs:s.length<100000) {W:Int}(hW:W=11∨W=12) (pr:Int) :
 Calls Tryz.prog 107 #[wp H.kb,.int .i64 p,tx s,.int .i64 pr,.bool true] w fun y w'=>∃n e S',y=.returned (.tuple #[.int .i64 n,aJ e])∧aX S p a b c s t W e S'∧sU w m H q A S' w':=by
 cases ho:S.O p with
 |none=>
  refine (h.1.Sj ho hp s pr true).mono ?_
  rintro y w' ⟨rfl,hb⟩
  exact ⟨_,7,S,rfl,.nobody ho (by omega),.same h hb⟩
 |some o=>
  obtain ⟨n,hn⟩:=h.1.vY
  obtain ⟨k,hk⟩:=h.1.MI
  refine (h.O6 ho (by omega) hn hk s hs pr true).mono ?_
  rintro y w' ⟨x,e,S',rfl,r,A',k',st⟩
  exact ⟨_,_,_,rfl,.file hW ho hn hk r,.mk k' (by omega) st⟩
theorem Pz (h:KN w m H S q A) (hq:q≤90) (hp:(Lit.int .i64 p).wf=true) :
 Calls Tryz.prog 13 #[wp H.kb,.int .i64 p] w fun y w'=>∃n k e S',y=.returned (.tuple #[.int .i64 n,.int .i64 k,aJ e])∧aX S p a b c s t 13 e S'∧sU w m H q A S' w':=by
 cases ho:S.O p with
 |none=>
  refine (h.1.Bz ho hp).mono ?_
  rintro y w' ⟨rfl,hb⟩
  exact ⟨_,_,7,S,rfl,.nobody ho (by omega),.same h hb⟩
 |some o=>
  obtain ⟨n,hn⟩:=h.1.vY
  refine (h.wS ho (by omega) hn).mono ?_
  rintro y w' ⟨x,y9,e,S',rfl,r,A',k',st⟩
  exact ⟨_,_,_,_,rfl,.pipe ho hn r,.mk k' (by omega) st⟩
theorem Tm (h:KN w m H S q A) (hp:(Lit.int .i64 p).wf=true) :
 Calls Tryz.prog 108 #[wp H.kb,.int .i64 p,.int .i64 a] w fun y w'=>∃n e S',y=.returned (.tuple #[.int .i64 n,aJ e])∧aX S p a b c s t 14 e S'∧sU w m H q A S' w':=by
 cases ho:S.O p with
 |none=>
  refine (h.1.VJ ho hp a).mono ?_
  rintro y w' ⟨rfl,hb⟩
  exact ⟨_,7,S,rfl,.nobody ho (by omega),.same h hb⟩
 |some o=>
  refine (h.Sz ho a).mono ?_
  rintro y w' ⟨rfl,A',k,st⟩
  exact ⟨_,_,_,rfl,.dup ho,.mk k (by omega) st⟩
theorem PI (h:KN w m H S q A) (hq:q≤90) (hp:(Lit.int .i64 p).wf=true) :
 Calls Tryz.prog 109 #[wp H.kb,.int .i64 p,.int .i64 a,.int .i64 b] w (bF w m H S q A p a b c s t 15):=by
 cases ho:S.O p with
 |none=>
  refine (h.1.rT ho hp a b).mono ?_
  rintro y w' ⟨rfl,hb⟩
  exact ⟨7,S,rfl,.nobody ho (by omega),.same h hb⟩
 |some o=>
  refine (h.Pd ho (by omega) a b).mono ?_
  rintro y w' ⟨rfl,A',k,st⟩
  exact ⟨_,_,rfl,.dup2 ho,.mk k (by omega) st⟩
theorem L8 (h:KN w m H S q A) (hq:q≤90) (hp:(Lit.int .i64 p).wf=true) :
 Calls Tryz.prog 15 #[wp H.kb,.int .i64 p,.int .i64 a] w (bF w m H S q A p a b c s t 16):=by
 cases ho:S.O p with
 |none=>
  refine (h.1.xq ho hp a).mono ?_
  rintro y w' ⟨rfl,rfl⟩
  exact ⟨7,S,rfl,.nobody ho (by omega),.same h (Below.refl _ _)⟩
 |some o=>
  refine (h.LM ho (by omega) a).mono ?_
  rintro y w' ⟨rfl,A',k,st⟩
  exact ⟨_,_,rfl,.close ho,.mk k (by omega) st⟩
theorem LX (h:KN w m H S q A) (hp:(Lit.int .i64 p).wf=true) (hs:s.length<100000) :
 Calls Tryz.prog 16 #[wp H.kb,.int .i64 p,.int .i64 a,tx s] w fun y w'=>∃n e S',y=.returned (.tuple #[.int .i64 n,aJ e])∧aX S p a b c s t 17 e S'∧sU w m H q A S' w':=by
 cases ho:S.O p with
 |none=>
  refine (h.1.rV ho hp a s).mono ?_
  rintro y w' ⟨rfl,rfl⟩
  exact ⟨_,7,S,rfl,.nobody ho (by omega),.same h (Below.refl _ _)⟩
 |some o=>
  refine (h.JA ho a s hs).mono ?_
  rintro y w' ⟨rfl,A',k,st⟩
  exact ⟨_,_,_,rfl,.write ho,.mk k (by omega) st⟩
theorem Py (h:KN w m H S q A) (hp:(Lit.int .i64 p).wf=true) :
 Calls Tryz.prog 19 #[wp H.kb,.int .i64 p,.int .i64 a,.int .i64 b] w fun y w'=>∃z e S',y=.returned (.tuple #[tx z,aJ e])∧aX S p a b c s t 18 e S'∧sU w m H q A S' w':=by
 cases ho:S.O p with
 |none=>
  refine (h.1.vK ho hp a b).mono ?_
  rintro y w' ⟨rfl,rfl⟩
  exact ⟨_,7,S,rfl,.nobody ho (by omega),.same h (Below.refl _ _)⟩
 |some o=>
  refine (h.Oc ho a b).mono ?_
  rintro y w' ⟨rfl,A',k,st⟩
  exact ⟨_,_,_,rfl,.read ho,.mk k (by omega) st⟩
theorem L6 (h:KN w m H S q A) (hp:(Lit.int .i64 p).wf=true) :
 Calls Tryz.prog 41 #[wp H.kb,.int .i64 p,.int .i64 a,.int .i64 b] w (bF w m H S q A p a b c s t 19):=by
 cases ho:S.O p with
 |none=>
  refine (h.1.OL ho hp a b).mono ?_
  rintro y w' ⟨rfl,rfl⟩
  exact ⟨7,S,rfl,.nobody ho (by omega),.same h (Below.refl _ _)⟩
 |some o=>
  refine (h.KO ho a b).mono ?_
  rintro y w' ⟨rfl,A',k,st⟩
  exact ⟨_,_,rfl,.limit ho,.mk k (by omega) st⟩
theorem PE (h:KN w m H S q A) (hp:(Lit.int .i64 p).wf=true) (ha:(Lit.int .i64 a).wf=true) :
 Calls Tryz.prog 92 #[wp H.kb,.int .i64 p,.int .i64 a,.int .i64 b] w (bF w m H S q A p a b c s t 20):=by
 cases ho:S.O p with
 |none=>
  refine (h.1.R6 ho hp a b).mono ?_
  rintro y w' ⟨rfl,rfl⟩
  exact ⟨7,S,rfl,.nobody ho (by omega),.same h (Below.refl _ _)⟩
 |some o=>
  refine (h.OW ho a b ha).mono ?_
  rintro y w' ⟨rfl,A',k,st⟩
  exact ⟨_,_,rfl,.kill ho,.mk k (by omega) st⟩
theorem NT (P:Ps) (n:Int):bu P n≤8:=by
 unfold bu
 split
 ·omega
 ·cases h:sigs.find? (P6 P n) with
  |none=>simp
  |some x=>
   have:=List.mem_of_find?_eq_some h
   simp only [Option.getD_some]
   unfold sigs at this
   simp only [List.mem_cons,List.not_mem_nil,or_false] at this
   omega
theorem GX (h:KN w m H S q A) (hk:H.ok=true) (hq:q≤90) (hp:(Lit.int .i64 p).wf=true) :
 Calls Tryz.prog 26 #[wp H.kb,.int .i64 p] w fun y w'=>∃z e S',y=.returned (.tuple #[.bool z,aJ e])∧aX S p a b c s t 21 e S'∧sU w m H q A S' w':=by
 cases ho:S.O p with
 |none=>
  refine (h.1.J5 ho hp).mono ?_
  rintro y w' ⟨rfl,rfl⟩
  exact ⟨_,7,S,rfl,.nobody ho (by omega),.same h (Below.refl _ _)⟩
 |some o=>
  by_cases h1:p=1
  ·subst h1
   refine (h.FY hk ho).mono ?_
   rintro y w' ⟨rfl,A',k,st⟩
   exact ⟨_,0,_,rfl,.first ho rfl,.mk k (by omega) st⟩
  ·by_cases hs:bu S.P p=0
   ·refine (h.Ey hk ho hs).mono ?_
    rintro y w' ⟨rfl,A',k,st⟩
    exact ⟨_,0,_,rfl,.quiet ho hs,.mk k (by omega) st⟩
   ·refine (h.Ex hk ho (by omega) h1 hs (NT _ _)).mono ?_
    rintro y w' ⟨rfl,A',k,st⟩
    exact ⟨_,0,_,rfl,.signal ho h1 hs,.mk k (by omega) st⟩
theorem LZ (h:KN w m H S q A) (hq:q≤90) (hp:(Lit.int .i64 p).wf=true) (hs:s.length<100000) :
 Calls Tryz.prog 191 #[wp H.kb,.int .i64 p,tx s] w (bF w m H S q A p a b c s t 22):=by
 cases ho:S.O p with
 |none=>
  refine (h.1.OG ho hp s).mono ?_
  rintro y w' ⟨rfl,rfl⟩
  exact ⟨7,S,rfl,.nobody ho (by omega),.same h (Below.refl _ _)⟩
 |some o=>
  obtain ⟨k,hk⟩:=h.1.MI
  refine (h.KI ho (by omega) hk s hs).mono ?_
  rintro y w' ⟨e,T',rfl,r,A',k',st⟩
  exact ⟨_,_,rfl,.CX ho hk r,.mk k' (by omega) st⟩
theorem GV (h:KN w m H S q A) (hq:q≤90) (hp:(Lit.int .i64 p).wf=true) (hs:s.length<100000) :
 Calls Tryz.prog 193 #[wp H.kb,.int .i64 p,tx s] w (bF w m H S q A p a b c s t 23):=by
 cases ho:S.O p with
 |none=>
  refine (h.1.uf ho hp s).mono ?_
  rintro y w' ⟨rfl,rfl⟩
  exact ⟨7,S,rfl,.nobody ho (by omega),.same h (Below.refl _ _)⟩
 |some o=>
  refine (h.qJ ho (by omega) s hs).mono ?_
  rintro y w' ⟨rfl,A',k,st⟩
  exact ⟨_,_,rfl,.unlink ho,.mk k (by omega) st⟩
theorem GY (h:KN w m H S q A) (hq:q≤90) (hp:(Lit.int .i64 p).wf=true) (hs:s.length<100000) (ht:t.length<100000) :
 Calls Tryz.prog 194 #[wp H.kb,.int .i64 p,tx s,tx t] w (bF w m H S q A p a b c s t 24):=by
 cases ho:S.O p with
 |none=>
  refine (h.1.uo ho hp s t).mono ?_
  rintro y w' ⟨rfl,rfl⟩
  exact ⟨7,S,rfl,.nobody ho (by omega),.same h (Below.refl _ _)⟩
 |some o=>
  refine (h.qL ho (by omega) s t hs ht).mono ?_
  rintro y w' ⟨rfl,A',k,st⟩
  exact ⟨_,_,rfl,.rename ho,.mk k (by omega) st⟩
theorem PD (h:KN w m H S q A) (hp:(Lit.int .i64 p).wf=true) (yes:Bool) :
 Calls Tryz.prog 189 #[wp H.kb,.int .i64 p,.int .i64 a,.bool yes] w (bF w m H S q A p a b c s t 26):=by
 cases ho:S.O p with
 |none=>
  refine (h.1.RV ho hp a _).mono ?_
  rintro y w' ⟨rfl,rfl⟩
  exact ⟨7,S,rfl,.nobody ho (by omega),.same h (Below.refl _ _)⟩
 |some o=>
  refine (h.OH ho a _).mono ?_
  rintro y w' ⟨rfl,A',k,st⟩
  exact ⟨_,_,rfl,.mark _ ho,.mk k (by omega) st⟩
theorem GZ (h:KN w m H S q A) (hp:(Lit.int .i64 p).wf=true) :
 Calls Tryz.prog 94 #[wp H.kb,.int .i64 p,.int .i64 a] w (bF w m H S q A p a b c s t 27):=by
 cases ho:S.O p with
 |none=>
  refine (h.1.L9 ho hp a).mono ?_
  rintro y w' ⟨rfl,rfl⟩
  exact ⟨7,S,rfl,.nobody ho (by omega),.same h (Below.refl _ _)⟩
 |some o=>
  refine (h.G7 ho a).mono ?_
  rintro y w' ⟨rfl,A',k,st⟩
  exact ⟨_,_,rfl,.wK ho,.mk k (by omega) st⟩
end
section
variable {w w':World}{m:Int}{H:KH}{S:KS}{q:Nat}{A:Nat→Prop}{p a b c:Int}{s t:List UInt8}
theorem KA (w:World) (a b c d e x y:Value) (t:TypeId):(w.alloc (.cells #[a,b,c,d,e,x,y] t)).heap[w.heap.size]? = some (.cells #[a,b,c,d,e,x,y] t):=by
 show (w.heap.push _)[w.heap.size]? = _
 rw [Array.getElem?_push,if_pos rfl]
theorem aN (w:World) (a b c d e x y:Value):∀T,(w.alloc (.cells #[a,b,c,d,e,x,y] T)).cell? ⟨w.heap.size,0,none⟩=some a∧(w.alloc (.cells #[a,b,c,d,e,x,y] T)).cell? ⟨w.heap.size,1,none⟩=some b∧(w.alloc (.cells #[a,b,c,d,e,x,y] T)).cell? ⟨w.heap.size,2,none⟩=some c∧(w.alloc (.cells #[a,b,c,d,e,x,y] T)).cell? ⟨w.heap.size,3,none⟩=some d∧(w.alloc (.cells #[a,b,c,d,e,x,y] T)).cell? ⟨w.heap.size,4,none⟩=some e∧(w.alloc (.cells #[a,b,c,d,e,x,y] T)).cell? ⟨w.heap.size,5,none⟩=some x∧(w.alloc (.cells #[a,b,c,d,e,x,y] T)).cell? ⟨w.heap.size,6,none⟩=some y:=fun T=>by
 have h:=KA w a b c d e x y T
 exact ⟨by rw [cell_of_row _ _ _ _ _ _ h];rfl,by rw [cell_of_row _ _ _ _ _ _ h];rfl,by rw [cell_of_row _ _ _ _ _ _ h];rfl,by rw [cell_of_row _ _ _ _ _ _ h];rfl,by rw [cell_of_row _ _ _ _ _ _ h];rfl,by rw [cell_of_row _ _ _ _ _ _ h];rfl,by rw [cell_of_row _ _ _ _ _ _ h];rfl⟩
theorem Rj (h:KN w m H S q A) (_hk:H.ok=true) (_hq:q≤90) (hp:(Lit.int .i64 p).wf=true) (_ha:(Lit.int .i64 a).wf=true) (_hb:b≤9223372036854775807) (_hs:s.length<100000) (_ht:t.length<100000) :
 Calls Tryz.prog 110 #[wp H.kb,.agg #[.int .i64 19,.int .i64 p,.int .i64 a,.int .i64 b,.int .i64 c,tx s,tx t]] w (bF w m H S q A p a b c s t 19):=by
 obtain ⟨J,hJ⟩:∃J,w.heap.size=J:=⟨_,rfl⟩
 obtain ⟨xs,hxs⟩:∃xs:Array Value,#[.int .i64 19,.int .i64 p,.int .i64 a,.int .i64 b,.int .i64 c,tx s,tx t]=xs:=⟨_,rfl⟩
 have b0:Below w.heap.size w (w.alloc (.cells xs 71)):=(Below.refl _ _).alloc (Nat.le_refl _) _
 have h0:=h.below b0
 obtain ⟨z0,z1,z2,z3,z4,z5,z6⟩:=aN w (.int .i64 19) (.int .i64 p) (.int .i64 a) (.int .i64 b) (.int .i64 c) (tx s) (tx t) 71
 rw [hxs,hJ] at z0 z1 z2 z3 z4 z5 z6
 go_enter Tryz.func110,Tryz.ntmps110
 go_upto_region 1 with fail
 generalize w.alloc (.cells xs 71)=wA at *
 clear hxs hJ
 have hP:=L6 (a:=a) (b:=b) (c:=c) (s:=s) (t:=t) h0 hp
 go_wp2_with (go_at_call 41;refine hP.mono ?_;rintro e w1 ⟨c1,S1,rfl,hR,hN⟩)
 go_ret
 exact ⟨c1,S1,rfl,hR,hN.before b0⟩
theorem Ri (h:KN w m H S q A) (_hk:H.ok=true) (_hq:q≤90) (hp:(Lit.int .i64 p).wf=true) (ha:(Lit.int .i64 a).wf=true) (_hb:b≤9223372036854775807) (_hs:s.length<100000) (_ht:t.length<100000) :
 Calls Tryz.prog 110 #[wp H.kb,.agg #[.int .i64 20,.int .i64 p,.int .i64 a,.int .i64 b,.int .i64 c,tx s,tx t]] w (bF w m H S q A p a b c s t 20):=by
 obtain ⟨J,hJ⟩:∃J,w.heap.size=J:=⟨_,rfl⟩
 obtain ⟨xs,hxs⟩:∃xs:Array Value,#[.int .i64 20,.int .i64 p,.int .i64 a,.int .i64 b,.int .i64 c,tx s,tx t]=xs:=⟨_,rfl⟩
 have b0:Below w.heap.size w (w.alloc (.cells xs 71)):=(Below.refl _ _).alloc (Nat.le_refl _) _
 have h0:=h.below b0
 obtain ⟨z0,z1,z2,z3,z4,z5,z6⟩:=aN w (.int .i64 20) (.int .i64 p) (.int .i64 a) (.int .i64 b) (.int .i64 c) (tx s) (tx t) 71
 rw [hxs,hJ] at z0 z1 z2 z3 z4 z5 z6
 go_enter Tryz.func110,Tryz.ntmps110
 go_upto_region 1 with fail
 generalize w.alloc (.cells xs 71)=wA at *
 clear hxs hJ
 have hP:=PE (a:=a) (b:=b) (c:=c) (s:=s) (t:=t) h0 hp ha
 go_wp2_with (go_at_call 92;refine hP.mono ?_;rintro e w1 ⟨c1,S1,rfl,hR,hN⟩)
 go_ret
 exact ⟨c1,S1,rfl,hR,hN.before b0⟩
theorem Rh (h:KN w m H S q A) (hk:H.ok=true) (hq:q≤90) (hp:(Lit.int .i64 p).wf=true) (_ha:(Lit.int .i64 a).wf=true) (_hb:b≤9223372036854775807) (_hs:s.length<100000) (_ht:t.length<100000) :
 Calls Tryz.prog 110 #[wp H.kb,.agg #[.int .i64 21,.int .i64 p,.int .i64 a,.int .i64 b,.int .i64 c,tx s,tx t]] w (bF w m H S q A p a b c s t 21):=by
 obtain ⟨J,hJ⟩:∃J,w.heap.size=J:=⟨_,rfl⟩
 obtain ⟨xs,hxs⟩:∃xs:Array Value,#[.int .i64 21,.int .i64 p,.int .i64 a,.int .i64 b,.int .i64 c,tx s,tx t]=xs:=⟨_,rfl⟩
 have b0:Below w.heap.size w (w.alloc (.cells xs 71)):=(Below.refl _ _).alloc (Nat.le_refl _) _
 have h0:=h.below b0
 obtain ⟨z0,z1,z2,z3,z4,z5,z6⟩:=aN w (.int .i64 21) (.int .i64 p) (.int .i64 a) (.int .i64 b) (.int .i64 c) (tx s) (tx t) 71
 rw [hxs,hJ] at z0 z1 z2 z3 z4 z5 z6
 go_enter Tryz.func110,Tryz.ntmps110
 go_upto_region 1 with fail
 generalize w.alloc (.cells xs 71)=wA at *
 clear hxs hJ
 have hP:=GX (a:=a) (b:=b) (c:=c) (s:=s) (t:=t) h0 hk hq hp
 go_wp2_with (go_at_call 26;refine hP.mono ?_;rintro e w1 ⟨n1,c1,S1,rfl,hR,hN⟩)
 go_ret
 exact ⟨c1,S1,rfl,hR,hN.before b0⟩
theorem Rf (h:KN w m H S q A) (_hk:H.ok=true) (hq:q≤90) (hp:(Lit.int .i64 p).wf=true) (_ha:(Lit.int .i64 a).wf=true) (_hb:b≤9223372036854775807) (hs:s.length<100000) (_ht:t.length<100000) :
 Calls Tryz.prog 110 #[wp H.kb,.agg #[.int .i64 22,.int .i64 p,.int .i64 a,.int .i64 b,.int .i64 c,tx s,tx t]] w (bF w m H S q A p a b c s t 22):=by
 obtain ⟨J,hJ⟩:∃J,w.heap.size=J:=⟨_,rfl⟩
 obtain ⟨xs,hxs⟩:∃xs:Array Value,#[.int .i64 22,.int .i64 p,.int .i64 a,.int .i64 b,.int .i64 c,tx s,tx t]=xs:=⟨_,rfl⟩
 have b0:Below w.heap.size w (w.alloc (.cells xs 71)):=(Below.refl _ _).alloc (Nat.le_refl _) _
 have h0:=h.below b0
 obtain ⟨z0,z1,z2,z3,z4,z5,z6⟩:=aN w (.int .i64 22) (.int .i64 p) (.int .i64 a) (.int .i64 b) (.int .i64 c) (tx s) (tx t) 71
 rw [hxs,hJ] at z0 z1 z2 z3 z4 z5 z6
 go_enter Tryz.func110,Tryz.ntmps110
 go_upto_region 1 with fail
 generalize w.alloc (.cells xs 71)=wA at *
 clear hxs hJ
 have hP:=LZ (a:=a) (b:=b) (c:=c) (s:=s) (t:=t) h0 hq hp hs
 go_wp2_with (go_at_call 191;refine hP.mono ?_;rintro e w1 ⟨c1,S1,rfl,hR,hN⟩)
 go_ret
 exact ⟨c1,S1,rfl,hR,hN.before b0⟩
theorem Re (h:KN w m H S q A) (_hk:H.ok=true) (hq:q≤90) (hp:(Lit.int .i64 p).wf=true) (_ha:(Lit.int .i64 a).wf=true) (_hb:b≤9223372036854775807) (hs:s.length<100000) (_ht:t.length<100000) :
 Calls Tryz.prog 110 #[wp H.kb,.agg #[.int .i64 23,.int .i64 p,.int .i64 a,.int .i64 b,.int .i64 c,tx s,tx t]] w (bF w m H S q A p a b c s t 23):=by
 obtain ⟨J,hJ⟩:∃J,w.heap.size=J:=⟨_,rfl⟩
 obtain ⟨xs,hxs⟩:∃xs:Array Value,#[.int .i64 23,.int .i64 p,.int .i64 a,.int .i64 b,.int .i64 c,tx s,tx t]=xs:=⟨_,rfl⟩
 have b0:Below w.heap.size w (w.alloc (.cells xs 71)):=(Below.refl _ _).alloc (Nat.le_refl _) _
 have h0:=h.below b0
 obtain ⟨z0,z1,z2,z3,z4,z5,z6⟩:=aN w (.int .i64 23) (.int .i64 p) (.int .i64 a) (.int .i64 b) (.int .i64 c) (tx s) (tx t) 71
 rw [hxs,hJ] at z0 z1 z2 z3 z4 z5 z6
 go_enter Tryz.func110,Tryz.ntmps110
 go_upto_region 1 with fail
 generalize w.alloc (.cells xs 71)=wA at *
 clear hxs hJ
 have hP:=GV (a:=a) (b:=b) (c:=c) (s:=s) (t:=t) h0 hq hp hs
 go_wp2_with (go_at_call 193;refine hP.mono ?_;rintro e w1 ⟨c1,S1,rfl,hR,hN⟩)
 go_ret
 exact ⟨c1,S1,rfl,hR,hN.before b0⟩
theorem Rc (h:KN w m H S q A) (_hk:H.ok=true) (hq:q≤90) (hp:(Lit.int .i64 p).wf=true) (_ha:(Lit.int .i64 a).wf=true) (_hb:b≤9223372036854775807) (hs:s.length<100000) (ht:t.length<100000) :
 Calls Tryz.prog 110 #[wp H.kb,.agg #[.int .i64 24,.int .i64 p,.int .i64 a,.int .i64 b,.int .i64 c,tx s,tx t]] w (bF w m H S q A p a b c s t 24):=by
 obtain ⟨J,hJ⟩:∃J,w.heap.size=J:=⟨_,rfl⟩
 obtain ⟨xs,hxs⟩:∃xs:Array Value,#[.int .i64 24,.int .i64 p,.int .i64 a,.int .i64 b,.int .i64 c,tx s,tx t]=xs:=⟨_,rfl⟩
 have b0:Below w.heap.size w (w.alloc (.cells xs 71)):=(Below.refl _ _).alloc (Nat.le_refl _) _
 have h0:=h.below b0
 obtain ⟨z0,z1,z2,z3,z4,z5,z6⟩:=aN w (.int .i64 24) (.int .i64 p) (.int .i64 a) (.int .i64 b) (.int .i64 c) (tx s) (tx t) 71
 rw [hxs,hJ] at z0 z1 z2 z3 z4 z5 z6
 go_enter Tryz.func110,Tryz.ntmps110
 go_upto_region 1 with fail
 generalize w.alloc (.cells xs 71)=wA at *
 clear hxs hJ
 have hP:=GY (a:=a) (b:=b) (c:=c) (s:=s) (t:=t) h0 hq hp hs ht
 go_wp2_with (go_at_call 194;refine hP.mono ?_;rintro e w1 ⟨c1,S1,rfl,hR,hN⟩)
 go_ret
 exact ⟨c1,S1,rfl,hR,hN.before b0⟩
theorem Rb (h:KN w m H S q A) (_hk:H.ok=true) (_hq:q≤90) (hp:(Lit.int .i64 p).wf=true) (_ha:(Lit.int .i64 a).wf=true) (hb:b≤9223372036854775807) (_hs:s.length<100000) (_ht:t.length<100000) :
 Calls Tryz.prog 110 #[wp H.kb,.agg #[.int .i64 25,.int .i64 p,.int .i64 a,.int .i64 b,.int .i64 c,tx s,tx t]] w (bF w m H S q A p a b c s t 25):=by
 obtain ⟨J,hJ⟩:∃J,w.heap.size=J:=⟨_,rfl⟩
 obtain ⟨xs,hxs⟩:∃xs:Array Value,#[.int .i64 25,.int .i64 p,.int .i64 a,.int .i64 b,.int .i64 c,tx s,tx t]=xs:=⟨_,rfl⟩
 have b0:Below w.heap.size w (w.alloc (.cells xs 71)):=(Below.refl _ _).alloc (Nat.le_refl _) _
 have h0:=h.below b0
 obtain ⟨z0,z1,z2,z3,z4,z5,z6⟩:=aN w (.int .i64 25) (.int .i64 p) (.int .i64 a) (.int .i64 b) (.int .i64 c) (tx s) (tx t) 71
 rw [hxs,hJ] at z0 z1 z2 z3 z4 z5 z6
 go_enter Tryz.func110,Tryz.ntmps110
 go_upto_region 1 with fail
 generalize w.alloc (.cells xs 71)=wA at *
 clear hxs hJ
 have hP:=EW (a:=a) (b:=b) (c:=c) (s:=s) (t:=t) h0 hp hb
 go_wp2_with (go_at_call 96;refine hP.mono ?_;rintro e w1 ⟨c1,S1,rfl,hR,hN⟩)
 go_ret
 exact ⟨c1,S1,rfl,hR,hN.before b0⟩
theorem Ra (h:KN w m H S q A) (_hk:H.ok=true) (_hq:q≤90) (hp:(Lit.int .i64 p).wf=true) (_ha:(Lit.int .i64 a).wf=true) (_hb:b≤9223372036854775807) (_hs:s.length<100000) (_ht:t.length<100000) :
 Calls Tryz.prog 110 #[wp H.kb,.agg #[.int .i64 26,.int .i64 p,.int .i64 a,.int .i64 b,.int .i64 c,tx s,tx t]] w (bF w m H S q A p a b c s t 26):=by
 obtain ⟨J,hJ⟩:∃J,w.heap.size=J:=⟨_,rfl⟩
 obtain ⟨xs,hxs⟩:∃xs:Array Value,#[.int .i64 26,.int .i64 p,.int .i64 a,.int .i64 b,.int .i64 c,tx s,tx t]=xs:=⟨_,rfl⟩
 have b0:Below w.heap.size w (w.alloc (.cells xs 71)):=(Below.refl _ _).alloc (Nat.le_refl _) _
 have h0:=h.below b0
 obtain ⟨z0,z1,z2,z3,z4,z5,z6⟩:=aN w (.int .i64 26) (.int .i64 p) (.int .i64 a) (.int .i64 b) (.int .i64 c) (tx s) (tx t) 71
 rw [hxs,hJ] at z0 z1 z2 z3 z4 z5 z6
 go_enter Tryz.func110,Tryz.ntmps110
 go_upto_region 1 with fail
 generalize w.alloc (.cells xs 71)=wA at *
 clear hxs hJ
 have hP:=fun yes=>PD (a:=a) (b:=b) (c:=c) (s:=s) (t:=t) h0 hp yes
 go_wp2_with (go_at_call 189;refine (hP _).mono ?_;rintro e w1 ⟨c1,S1,rfl,hR,hN⟩)
 go_ret
 exact ⟨c1,S1,rfl,hR,hN.before b0⟩
theorem Q9 (h:KN w m H S q A) (_hk:H.ok=true) (_hq:q≤90) (hp:(Lit.int .i64 p).wf=true) (_ha:(Lit.int .i64 a).wf=true) (_hb:b≤9223372036854775807) (_hs:s.length<100000) (_ht:t.length<100000) :
 Calls Tryz.prog 110 #[wp H.kb,.agg #[.int .i64 27,.int .i64 p,.int .i64 a,.int .i64 b,.int .i64 c,tx s,tx t]] w (bF w m H S q A p a b c s t 27):=by
 obtain ⟨J,hJ⟩:∃J,w.heap.size=J:=⟨_,rfl⟩
 obtain ⟨xs,hxs⟩:∃xs:Array Value,#[.int .i64 27,.int .i64 p,.int .i64 a,.int .i64 b,.int .i64 c,tx s,tx t]=xs:=⟨_,rfl⟩
 have b0:Below w.heap.size w (w.alloc (.cells xs 71)):=(Below.refl _ _).alloc (Nat.le_refl _) _
 have h0:=h.below b0
 obtain ⟨z0,z1,z2,z3,z4,z5,z6⟩:=aN w (.int .i64 27) (.int .i64 p) (.int .i64 a) (.int .i64 b) (.int .i64 c) (tx s) (tx t) 71
 rw [hxs,hJ] at z0 z1 z2 z3 z4 z5 z6
 go_enter Tryz.func110,Tryz.ntmps110
 go_upto_region 1 with fail
 generalize w.alloc (.cells xs 71)=wA at *
 clear hxs hJ
 have hP:=GZ (a:=a) (b:=b) (c:=c) (s:=s) (t:=t) h0 hp
 go_wp2_with (go_at_call 94;refine hP.mono ?_;rintro e w1 ⟨c1,S1,rfl,hR,hN⟩)
 go_ret
 exact ⟨c1,S1,rfl,hR,hN.before b0⟩
theorem Kl (v:Int) (hv:¬(0≤v∧v≤27)) (h:KN w m H S q A) (_hk:H.ok=true) (_hq:q≤90) (_hp:(Lit.int .i64 p).wf=true) (_ha:(Lit.int .i64 a).wf=true) (_hb:b≤9223372036854775807) (_hs:s.length<100000) (_ht:t.length<100000) :
 Calls Tryz.prog 110 #[wp H.kb,.agg #[.int .i64 v,.int .i64 p,.int .i64 a,.int .i64 b,.int .i64 c,tx s,tx t]] w (bF w m H S q A p a b c s t v):=by
 obtain ⟨J,hJ⟩:∃J,w.heap.size=J:=⟨_,rfl⟩
 obtain ⟨xs,hxs⟩:∃xs:Array Value,#[.int .i64 v,.int .i64 p,.int .i64 a,.int .i64 b,.int .i64 c,tx s,tx t]=xs:=⟨_,rfl⟩
 have b0:Below w.heap.size w (w.alloc (.cells xs 71)):=(Below.refl _ _).alloc (Nat.le_refl _) _
 have h0:=h.below b0
 obtain ⟨z0,z1,z2,z3,z4,z5,z6⟩:=aN w (.int .i64 v) (.int .i64 p) (.int .i64 a) (.int .i64 b) (.int .i64 c) (tx s) (tx t) 71
 rw [hxs,hJ] at z0 z1 z2 z3 z4 z5 z6
 have e19:(v == 19)=false:=by simp;omega
 have e20:(v == 20)=false:=by simp;omega
 have e21:(v == 21)=false:=by simp;omega
 have e22:(v == 22)=false:=by simp;omega
 have e23:(v == 23)=false:=by simp;omega
 have e24:(v == 24)=false:=by simp;omega
 have e25:(v == 25)=false:=by simp;omega
 have e26:(v == 26)=false:=by simp;omega
 have e27:(v == 27)=false:=by simp;omega
 have hR:=aX.other (S:=S) (p:=p) (a:=a) (b:=b) (c:=c) (s:=s) (t:=t) hv
 clear hv
 go_enter Tryz.func110,Tryz.ntmps110
 go_upto_region 1 with fail
 generalize w.alloc (.cells xs 71)=wA at *
 clear hxs hJ
 go_wp2_with fail
 go_ret
 exact ⟨0,S,rfl,hR,(sU.same h0 (Below.refl _ _)).before b0⟩
theorem Og (v:Int) (hv:¬(0≤v∧v≤18)) (h:KN w m H S q A) (hk:H.ok=true) (hq:q≤90) (hp:(Lit.int .i64 p).wf=true) (ha:(Lit.int .i64 a).wf=true) (hb:b≤9223372036854775807) (hs:s.length<100000) (ht:t.length<100000) :
 Calls Tryz.prog 110 #[wp H.kb,.agg #[.int .i64 v,.int .i64 p,.int .i64 a,.int .i64 b,.int .i64 c,tx s,tx t]] w (bF w m H S q A p a b c s t v):=by
 by_cases h9:¬(0≤v∧v≤27)
 ·exact Kl v h9 h hk hq hp ha hb hs ht
 ·have hc:v=19∨v=20∨v=21∨v=22∨v=23∨v=24∨v=25∨v=26∨v=27:=by omega
  rcases hc with rfl|rfl|rfl|rfl|rfl|rfl|rfl|rfl|rfl
  ·exact Rj h hk hq hp ha hb hs ht
  ·exact Ri h hk hq hp ha hb hs ht
  ·exact Rh h hk hq hp ha hb hs ht
  ·exact Rf h hk hq hp ha hb hs ht
  ·exact Re h hk hq hp ha hb hs ht
  ·exact Rc h hk hq hp ha hb hs ht
  ·exact Rb h hk hq hp ha hb hs ht
  ·exact Ra h hk hq hp ha hb hs ht
  ·exact Q9 h hk hq hp ha hb hs ht
end
section
variable {w w':World}{m:Int}{H:KH}{S:KS}{q:Nat}{A:Nat→Prop}{p a b c:Int}{s t:List UInt8}
theorem VY (h:KN w m H S q A) (_hk:H.ok=true) (hq:q≤90) (hp:(Lit.int .i64 p).wf=true) (_ha:(Lit.int .i64 a).wf=true) (_hb:b≤9223372036854775807) (_hs:s.length<100000) (_ht:t.length<100000) :
 Calls Tryz.prog 33 #[wp H.kb,.agg #[.int .i64 0,.int .i64 p,.int .i64 a,.int .i64 b,.int .i64 c,tx s,tx t]] w (bF w m H S q A p a b c s t 0):=by
 obtain ⟨J,hJ⟩:∃J,w.heap.size=J:=⟨_,rfl⟩
 obtain ⟨xs,hxs⟩:∃xs:Array Value,#[.int .i64 0,.int .i64 p,.int .i64 a,.int .i64 b,.int .i64 c,tx s,tx t]=xs:=⟨_,rfl⟩
 have b0:Below w.heap.size w (w.alloc (.cells xs 71)):=(Below.refl _ _).alloc (Nat.le_refl _) _
 have h0:=h.below b0
 obtain ⟨z0,z1,z2,z3,z4,z5,z6⟩:=aN w (.int .i64 0) (.int .i64 p) (.int .i64 a) (.int .i64 b) (.int .i64 c) (tx s) (tx t) 71
 rw [hxs,hJ] at z0 z1 z2 z3 z4 z5 z6
 go_enter Tryz.func33,Tryz.ntmps33
 go_upto_region 1 with fail
 generalize w.alloc (.cells xs 71)=wA at *
 clear hxs hJ
 have hP:=Ei (a:=a) (b:=b) (c:=c) (s:=s) (t:=t) h0 hq hp (W:=0) (by omega)
 go_wp2_with (go_at_call 14;refine hP.mono ?_;rintro e w1 ⟨n1,c1,S1,rfl,hR,hN⟩)
 go_ret
 exact ⟨c1,S1,rfl,hR,hN.before b0⟩
theorem VX (h:KN w m H S q A) (_hk:H.ok=true) (hq:q≤90) (hp:(Lit.int .i64 p).wf=true) (_ha:(Lit.int .i64 a).wf=true) (_hb:b≤9223372036854775807) (_hs:s.length<100000) (_ht:t.length<100000) :
 Calls Tryz.prog 33 #[wp H.kb,.agg #[.int .i64 1,.int .i64 p,.int .i64 a,.int .i64 b,.int .i64 c,tx s,tx t]] w (bF w m H S q A p a b c s t 1):=by
 obtain ⟨J,hJ⟩:∃J,w.heap.size=J:=⟨_,rfl⟩
 obtain ⟨xs,hxs⟩:∃xs:Array Value,#[.int .i64 1,.int .i64 p,.int .i64 a,.int .i64 b,.int .i64 c,tx s,tx t]=xs:=⟨_,rfl⟩
 have b0:Below w.heap.size w (w.alloc (.cells xs 71)):=(Below.refl _ _).alloc (Nat.le_refl _) _
 have h0:=h.below b0
 obtain ⟨z0,z1,z2,z3,z4,z5,z6⟩:=aN w (.int .i64 1) (.int .i64 p) (.int .i64 a) (.int .i64 b) (.int .i64 c) (tx s) (tx t) 71
 rw [hxs,hJ] at z0 z1 z2 z3 z4 z5 z6
 go_enter Tryz.func33,Tryz.ntmps33
 go_upto_region 1 with fail
 generalize w.alloc (.cells xs 71)=wA at *
 clear hxs hJ
 have hP:=Ei (a:=a) (b:=b) (c:=c) (s:=s) (t:=t) h0 hq hp (W:=1) (by omega)
 go_wp2_with (go_at_call 14;refine hP.mono ?_;rintro e w1 ⟨n1,c1,S1,rfl,hR,hN⟩)
 go_ret
 exact ⟨c1,S1,rfl,hR,hN.before b0⟩
theorem VW (h:KN w m H S q A) (_hk:H.ok=true) (hq:q≤90) (hp:(Lit.int .i64 p).wf=true) (_ha:(Lit.int .i64 a).wf=true) (_hb:b≤9223372036854775807) (_hs:s.length<100000) (_ht:t.length<100000) :
 Calls Tryz.prog 33 #[wp H.kb,.agg #[.int .i64 2,.int .i64 p,.int .i64 a,.int .i64 b,.int .i64 c,tx s,tx t]] w (bF w m H S q A p a b c s t 2):=by
 obtain ⟨J,hJ⟩:∃J,w.heap.size=J:=⟨_,rfl⟩
 obtain ⟨xs,hxs⟩:∃xs:Array Value,#[.int .i64 2,.int .i64 p,.int .i64 a,.int .i64 b,.int .i64 c,tx s,tx t]=xs:=⟨_,rfl⟩
 have b0:Below w.heap.size w (w.alloc (.cells xs 71)):=(Below.refl _ _).alloc (Nat.le_refl _) _
 have h0:=h.below b0
 obtain ⟨z0,z1,z2,z3,z4,z5,z6⟩:=aN w (.int .i64 2) (.int .i64 p) (.int .i64 a) (.int .i64 b) (.int .i64 c) (tx s) (tx t) 71
 rw [hxs,hJ] at z0 z1 z2 z3 z4 z5 z6
 go_enter Tryz.func33,Tryz.ntmps33
 go_upto_region 1 with fail
 generalize w.alloc (.cells xs 71)=wA at *
 clear hxs hJ
 have hP:=PG (a:=a) (b:=b) (c:=c) (s:=s) (t:=t) h0 hq hp
 go_wp2_with (go_at_call 20;refine hP.mono ?_;rintro e w1 ⟨c1,S1,rfl,hR,hN⟩)
 go_ret
 exact ⟨c1,S1,rfl,hR,hN.before b0⟩
theorem VV (h:KN w m H S q A) (_hk:H.ok=true) (hq:q≤90) (hp:(Lit.int .i64 p).wf=true) (_ha:(Lit.int .i64 a).wf=true) (_hb:b≤9223372036854775807) (_hs:s.length<100000) (_ht:t.length<100000) :
 Calls Tryz.prog 33 #[wp H.kb,.agg #[.int .i64 3,.int .i64 p,.int .i64 a,.int .i64 b,.int .i64 c,tx s,tx t]] w (bF w m H S q A p a b c s t 3):=by
 obtain ⟨J,hJ⟩:∃J,w.heap.size=J:=⟨_,rfl⟩
 obtain ⟨xs,hxs⟩:∃xs:Array Value,#[.int .i64 3,.int .i64 p,.int .i64 a,.int .i64 b,.int .i64 c,tx s,tx t]=xs:=⟨_,rfl⟩
 have b0:Below w.heap.size w (w.alloc (.cells xs 71)):=(Below.refl _ _).alloc (Nat.le_refl _) _
 have h0:=h.below b0
 obtain ⟨z0,z1,z2,z3,z4,z5,z6⟩:=aN w (.int .i64 3) (.int .i64 p) (.int .i64 a) (.int .i64 b) (.int .i64 c) (tx s) (tx t) 71
 rw [hxs,hJ] at z0 z1 z2 z3 z4 z5 z6
 go_enter Tryz.func33,Tryz.ntmps33
 go_upto_region 1 with fail
 generalize w.alloc (.cells xs 71)=wA at *
 clear hxs hJ
 have hP:=PH (a:=a) (b:=b) (c:=c) (s:=s) (t:=t) h0 hq hp
 go_wp2_with (go_at_call 37;refine hP.mono ?_;rintro e w1 ⟨c1,S1,rfl,hR,hN⟩)
 go_ret
 exact ⟨c1,S1,rfl,hR,hN.before b0⟩
theorem VU (h:KN w m H S q A) (_hk:H.ok=true) (_hq:q≤90) (hp:(Lit.int .i64 p).wf=true) (_ha:(Lit.int .i64 a).wf=true) (_hb:b≤9223372036854775807) (_hs:s.length<100000) (_ht:t.length<100000) :
 Calls Tryz.prog 33 #[wp H.kb,.agg #[.int .i64 4,.int .i64 p,.int .i64 a,.int .i64 b,.int .i64 c,tx s,tx t]] w (bF w m H S q A p a b c s t 4):=by
 obtain ⟨J,hJ⟩:∃J,w.heap.size=J:=⟨_,rfl⟩
 obtain ⟨xs,hxs⟩:∃xs:Array Value,#[.int .i64 4,.int .i64 p,.int .i64 a,.int .i64 b,.int .i64 c,tx s,tx t]=xs:=⟨_,rfl⟩
 have b0:Below w.heap.size w (w.alloc (.cells xs 71)):=(Below.refl _ _).alloc (Nat.le_refl _) _
 have h0:=h.below b0
 obtain ⟨z0,z1,z2,z3,z4,z5,z6⟩:=aN w (.int .i64 4) (.int .i64 p) (.int .i64 a) (.int .i64 b) (.int .i64 c) (tx s) (tx t) 71
 rw [hxs,hJ] at z0 z1 z2 z3 z4 z5 z6
 go_enter Tryz.func33,Tryz.ntmps33
 go_upto_region 1 with fail
 generalize w.alloc (.cells xs 71)=wA at *
 clear hxs hJ
 have hP:=Px (a:=a) (b:=b) (c:=c) (s:=s) (t:=t) h0 hp
 go_wp2_with (go_at_call 36;refine hP.mono ?_;rintro e w1 ⟨n1,n2,c1,S1,rfl,hR,hN⟩)
 go_ret
 exact ⟨c1,S1,rfl,hR,hN.before b0⟩
theorem VT (h:KN w m H S q A) (_hk:H.ok=true) (_hq:q≤90) (hp:(Lit.int .i64 p).wf=true) (_ha:(Lit.int .i64 a).wf=true) (hb:b≤9223372036854775807) (_hs:s.length<100000) (_ht:t.length<100000) :
 Calls Tryz.prog 33 #[wp H.kb,.agg #[.int .i64 5,.int .i64 p,.int .i64 a,.int .i64 b,.int .i64 c,tx s,tx t]] w (bF w m H S q A p a b c s t 5):=by
 obtain ⟨J,hJ⟩:∃J,w.heap.size=J:=⟨_,rfl⟩
 obtain ⟨xs,hxs⟩:∃xs:Array Value,#[.int .i64 5,.int .i64 p,.int .i64 a,.int .i64 b,.int .i64 c,tx s,tx t]=xs:=⟨_,rfl⟩
 have b0:Below w.heap.size w (w.alloc (.cells xs 71)):=(Below.refl _ _).alloc (Nat.le_refl _) _
 have h0:=h.below b0
 obtain ⟨z0,z1,z2,z3,z4,z5,z6⟩:=aN w (.int .i64 5) (.int .i64 p) (.int .i64 a) (.int .i64 b) (.int .i64 c) (tx s) (tx t) 71
 rw [hxs,hJ] at z0 z1 z2 z3 z4 z5 z6
 go_enter Tryz.func33,Tryz.ntmps33
 go_upto_region 1 with fail
 generalize w.alloc (.cells xs 71)=wA at *
 clear hxs hJ
 have hP:=any_map (a:=a) (b:=b) (c:=c) (s:=s) (t:=t) h0 hp hb (W:=5) (by omega)
 go_wp2_with (go_at_call 45;refine hP.mono ?_;rintro e w1 ⟨c1,S1,rfl,hR,hN⟩)
 go_ret
 exact ⟨c1,S1,rfl,hR,hN.before b0⟩
theorem VR (h:KN w m H S q A) (_hk:H.ok=true) (_hq:q≤90) (hp:(Lit.int .i64 p).wf=true) (_ha:(Lit.int .i64 a).wf=true) (hb:b≤9223372036854775807) (_hs:s.length<100000) (_ht:t.length<100000) :
 Calls Tryz.prog 33 #[wp H.kb,.agg #[.int .i64 6,.int .i64 p,.int .i64 a,.int .i64 b,.int .i64 c,tx s,tx t]] w (bF w m H S q A p a b c s t 6):=by
 obtain ⟨J,hJ⟩:∃J,w.heap.size=J:=⟨_,rfl⟩
 obtain ⟨xs,hxs⟩:∃xs:Array Value,#[.int .i64 6,.int .i64 p,.int .i64 a,.int .i64 b,.int .i64 c,tx s,tx t]=xs:=⟨_,rfl⟩
 have b0:Below w.heap.size w (w.alloc (.cells xs 71)):=(Below.refl _ _).alloc (Nat.le_refl _) _
 have h0:=h.below b0
 obtain ⟨z0,z1,z2,z3,z4,z5,z6⟩:=aN w (.int .i64 6) (.int .i64 p) (.int .i64 a) (.int .i64 b) (.int .i64 c) (tx s) (tx t) 71
 rw [hxs,hJ] at z0 z1 z2 z3 z4 z5 z6
 go_enter Tryz.func33,Tryz.ntmps33
 go_upto_region 1 with fail
 generalize w.alloc (.cells xs 71)=wA at *
 clear hxs hJ
 have hP:=any_map (a:=a) (b:=b) (c:=c) (s:=s) (t:=t) h0 hp hb (W:=6) (by omega)
 go_wp2_with (go_at_call 45;refine hP.mono ?_;rintro e w1 ⟨c1,S1,rfl,hR,hN⟩)
 go_ret
 exact ⟨c1,S1,rfl,hR,hN.before b0⟩
theorem VQ (h:KN w m H S q A) (_hk:H.ok=true) (_hq:q≤90) (hp:(Lit.int .i64 p).wf=true) (_ha:(Lit.int .i64 a).wf=true) (hb:b≤9223372036854775807) (_hs:s.length<100000) (_ht:t.length<100000) :
 Calls Tryz.prog 33 #[wp H.kb,.agg #[.int .i64 7,.int .i64 p,.int .i64 a,.int .i64 b,.int .i64 c,tx s,tx t]] w (bF w m H S q A p a b c s t 7):=by
 obtain ⟨J,hJ⟩:∃J,w.heap.size=J:=⟨_,rfl⟩
 obtain ⟨xs,hxs⟩:∃xs:Array Value,#[.int .i64 7,.int .i64 p,.int .i64 a,.int .i64 b,.int .i64 c,tx s,tx t]=xs:=⟨_,rfl⟩
 have b0:Below w.heap.size w (w.alloc (.cells xs 71)):=(Below.refl _ _).alloc (Nat.le_refl _) _
 have h0:=h.below b0
 obtain ⟨z0,z1,z2,z3,z4,z5,z6⟩:=aN w (.int .i64 7) (.int .i64 p) (.int .i64 a) (.int .i64 b) (.int .i64 c) (tx s) (tx t) 71
 rw [hxs,hJ] at z0 z1 z2 z3 z4 z5 z6
 go_enter Tryz.func33,Tryz.ntmps33
 go_upto_region 1 with fail
 generalize w.alloc (.cells xs 71)=wA at *
 clear hxs hJ
 have hP:=LY (a:=a) (b:=b) (c:=c) (s:=s) (t:=t) h0 hp hb
 go_wp2_with (go_at_call 95;refine hP.mono ?_;rintro e w1 ⟨c1,S1,rfl,hR,hN⟩)
 go_ret
 exact ⟨c1,S1,rfl,hR,hN.before b0⟩
theorem VP (h:KN w m H S q A) (_hk:H.ok=true) (hq:q≤90) (hp:(Lit.int .i64 p).wf=true) (ha:(Lit.int .i64 a).wf=true) (_hb:b≤9223372036854775807) (_hs:s.length<100000) (_ht:t.length<100000) :
 Calls Tryz.prog 33 #[wp H.kb,.agg #[.int .i64 8,.int .i64 p,.int .i64 a,.int .i64 b,.int .i64 c,tx s,tx t]] w (bF w m H S q A p a b c s t 8):=by
 obtain ⟨J,hJ⟩:∃J,w.heap.size=J:=⟨_,rfl⟩
 obtain ⟨xs,hxs⟩:∃xs:Array Value,#[.int .i64 8,.int .i64 p,.int .i64 a,.int .i64 b,.int .i64 c,tx s,tx t]=xs:=⟨_,rfl⟩
 have b0:Below w.heap.size w (w.alloc (.cells xs 71)):=(Below.refl _ _).alloc (Nat.le_refl _) _
 have h0:=h.below b0
 obtain ⟨z0,z1,z2,z3,z4,z5,z6⟩:=aN w (.int .i64 8) (.int .i64 p) (.int .i64 a) (.int .i64 b) (.int .i64 c) (tx s) (tx t) 71
 rw [hxs,hJ] at z0 z1 z2 z3 z4 z5 z6
 go_enter Tryz.func33,Tryz.ntmps33
 go_upto_region 1 with fail
 generalize w.alloc (.cells xs 71)=wA at *
 clear hxs hJ
 have hP:=uE (a:=a) (b:=b) (c:=c) (s:=s) (t:=t) h0 hq hp ha (W:=8) (by omega)
 go_wp2_with (go_at_call 42;refine hP.mono ?_;rintro e w1 ⟨n1,c1,S1,rfl,hR,hN⟩)
 go_ret
 exact ⟨c1,S1,rfl,hR,hN.before b0⟩
theorem VO (h:KN w m H S q A) (_hk:H.ok=true) (hq:q≤90) (hp:(Lit.int .i64 p).wf=true) (ha:(Lit.int .i64 a).wf=true) (_hb:b≤9223372036854775807) (_hs:s.length<100000) (_ht:t.length<100000) :
 Calls Tryz.prog 33 #[wp H.kb,.agg #[.int .i64 9,.int .i64 p,.int .i64 a,.int .i64 b,.int .i64 c,tx s,tx t]] w (bF w m H S q A p a b c s t 9):=by
 obtain ⟨J,hJ⟩:∃J,w.heap.size=J:=⟨_,rfl⟩
 obtain ⟨xs,hxs⟩:∃xs:Array Value,#[.int .i64 9,.int .i64 p,.int .i64 a,.int .i64 b,.int .i64 c,tx s,tx t]=xs:=⟨_,rfl⟩
 have b0:Below w.heap.size w (w.alloc (.cells xs 71)):=(Below.refl _ _).alloc (Nat.le_refl _) _
 have h0:=h.below b0
 obtain ⟨z0,z1,z2,z3,z4,z5,z6⟩:=aN w (.int .i64 9) (.int .i64 p) (.int .i64 a) (.int .i64 b) (.int .i64 c) (tx s) (tx t) 71
 rw [hxs,hJ] at z0 z1 z2 z3 z4 z5 z6
 go_enter Tryz.func33,Tryz.ntmps33
 go_upto_region 1 with fail
 generalize w.alloc (.cells xs 71)=wA at *
 clear hxs hJ
 have hP:=uE (a:=a) (b:=b) (c:=c) (s:=s) (t:=t) h0 hq hp ha (W:=9) (by omega)
 go_wp2_with (go_at_call 42;refine hP.mono ?_;rintro e w1 ⟨n1,c1,S1,rfl,hR,hN⟩)
 go_ret
 exact ⟨c1,S1,rfl,hR,hN.before b0⟩
theorem Te (h:KN w m H S q A) (_hk:H.ok=true) (hq:q≤90) (hp:(Lit.int .i64 p).wf=true) (ha:(Lit.int .i64 a).wf=true) (_hb:b≤9223372036854775807) (_hs:s.length<100000) (_ht:t.length<100000) :
 Calls Tryz.prog 33 #[wp H.kb,.agg #[.int .i64 10,.int .i64 p,.int .i64 a,.int .i64 b,.int .i64 c,tx s,tx t]] w (bF w m H S q A p a b c s t 10):=by
 obtain ⟨J,hJ⟩:∃J,w.heap.size=J:=⟨_,rfl⟩
 obtain ⟨xs,hxs⟩:∃xs:Array Value,#[.int .i64 10,.int .i64 p,.int .i64 a,.int .i64 b,.int .i64 c,tx s,tx t]=xs:=⟨_,rfl⟩
 have b0:Below w.heap.size w (w.alloc (.cells xs 71)):=(Below.refl _ _).alloc (Nat.le_refl _) _
 have h0:=h.below b0
 obtain ⟨z0,z1,z2,z3,z4,z5,z6⟩:=aN w (.int .i64 10) (.int .i64 p) (.int .i64 a) (.int .i64 b) (.int .i64 c) (tx s) (tx t) 71
 rw [hxs,hJ] at z0 z1 z2 z3 z4 z5 z6
 go_enter Tryz.func33,Tryz.ntmps33
 go_upto_region 1 with fail
 generalize w.alloc (.cells xs 71)=wA at *
 clear hxs hJ
 have hP:=uE (a:=a) (b:=b) (c:=c) (s:=s) (t:=t) h0 hq hp ha (W:=10) (by omega)
 go_wp2_with (go_at_call 42;refine hP.mono ?_;rintro e w1 ⟨n1,c1,S1,rfl,hR,hN⟩)
 go_ret
 exact ⟨c1,S1,rfl,hR,hN.before b0⟩
theorem Td (h:KN w m H S q A) (_hk:H.ok=true) (hq:q≤90) (hp:(Lit.int .i64 p).wf=true) (_ha:(Lit.int .i64 a).wf=true) (_hb:b≤9223372036854775807) (hs:s.length<100000) (_ht:t.length<100000) :
 Calls Tryz.prog 33 #[wp H.kb,.agg #[.int .i64 11,.int .i64 p,.int .i64 a,.int .i64 b,.int .i64 c,tx s,tx t]] w (bF w m H S q A p a b c s t 11):=by
 obtain ⟨J,hJ⟩:∃J,w.heap.size=J:=⟨_,rfl⟩
 obtain ⟨xs,hxs⟩:∃xs:Array Value,#[.int .i64 11,.int .i64 p,.int .i64 a,.int .i64 b,.int .i64 c,tx s,tx t]=xs:=⟨_,rfl⟩
 have b0:Below w.heap.size w (w.alloc (.cells xs 71)):=(Below.refl _ _).alloc (Nat.le_refl _) _
 have h0:=h.below b0
 obtain ⟨z0,z1,z2,z3,z4,z5,z6⟩:=aN w (.int .i64 11) (.int .i64 p) (.int .i64 a) (.int .i64 b) (.int .i64 c) (tx s) (tx t) 71
 rw [hxs,hJ] at z0 z1 z2 z3 z4 z5 z6
 have Uo:¬A J:=fun z=>by have:=h.1.lt _ z;omega
 go_enter Tryz.func33,Tryz.ntmps33
 go_upto_region 1 with fail
 generalize w.alloc (.cells xs 71)=wA at *
 clear hxs hJ
 have WT:=fun W=>zH W a 3 (by omega) (by omega)
 have hP:=fun W (n0:KN W m H S q A) (pr:Int)=>Ej (a:=a) (b:=b) (c:=c) (s:=s) (t:=t) n0 hq hp hs (W:=11) (by omega) pr
 go_upto_region 24 with fail
 go_region_held3 (fun w'=>w'.cell? ⟨J,1,none⟩=some (.int .i64 p)∧w'.cell? ⟨J,2,none⟩=some (.int .i64 a)∧w'.cell? ⟨J,5,none⟩=some (tx s)) (first|exact ⟨y1,y2,y5⟩|exact ⟨z1,z2,z5⟩) (first
  |(go_at_call 18;refine (WT _).mono ?_;rintro e w2 ⟨r,rfl,hr,hw2⟩;subst w2)
  |(go_at_call 107;refine (hP _ ?_ _).mono ?_;(first|exact h0|exact h0.below ⟨rfl,rfl,rfl,Nat.le_refl _,fun _ _=>rfl⟩);rintro e w1 ⟨n1,c1,S1,rfl,hR,hN⟩;have y1:=hN.cell Uo z1;have y2:=hN.cell Uo z2;have y5:=hN.cell Uo z5))
 all_goals
  clear hP WT
  go_wp2_with fail
  go_ret
  exact ⟨c1,S1,rfl,hR,(sU.asw (w:=wA) hN rfl rfl rfl rfl).before b0⟩
theorem Tc (h:KN w m H S q A) (_hk:H.ok=true) (hq:q≤90) (hp:(Lit.int .i64 p).wf=true) (_ha:(Lit.int .i64 a).wf=true) (_hb:b≤9223372036854775807) (hs:s.length<100000) (_ht:t.length<100000) :
 Calls Tryz.prog 33 #[wp H.kb,.agg #[.int .i64 12,.int .i64 p,.int .i64 a,.int .i64 b,.int .i64 c,tx s,tx t]] w (bF w m H S q A p a b c s t 12):=by
 obtain ⟨J,hJ⟩:∃J,w.heap.size=J:=⟨_,rfl⟩
 obtain ⟨xs,hxs⟩:∃xs:Array Value,#[.int .i64 12,.int .i64 p,.int .i64 a,.int .i64 b,.int .i64 c,tx s,tx t]=xs:=⟨_,rfl⟩
 have b0:Below w.heap.size w (w.alloc (.cells xs 71)):=(Below.refl _ _).alloc (Nat.le_refl _) _
 have h0:=h.below b0
 obtain ⟨z0,z1,z2,z3,z4,z5,z6⟩:=aN w (.int .i64 12) (.int .i64 p) (.int .i64 a) (.int .i64 b) (.int .i64 c) (tx s) (tx t) 71
 rw [hxs,hJ] at z0 z1 z2 z3 z4 z5 z6
 have Uo:¬A J:=fun z=>by have:=h.1.lt _ z;omega
 go_enter Tryz.func33,Tryz.ntmps33
 go_upto_region 1 with fail
 generalize w.alloc (.cells xs 71)=wA at *
 clear hxs hJ
 have WT:=fun W=>zH W a 3 (by omega) (by omega)
 have hP:=fun W (n0:KN W m H S q A) (pr:Int)=>Ej (a:=a) (b:=b) (c:=c) (s:=s) (t:=t) n0 hq hp hs (W:=12) (by omega) pr
 go_upto_region 24 with fail
 go_region_held3 (fun w'=>w'.cell? ⟨J,1,none⟩=some (.int .i64 p)∧w'.cell? ⟨J,2,none⟩=some (.int .i64 a)∧w'.cell? ⟨J,5,none⟩=some (tx s)) (first|exact ⟨y1,y2,y5⟩|exact ⟨z1,z2,z5⟩) (first
  |(go_at_call 18;refine (WT _).mono ?_;rintro e w2 ⟨r,rfl,hr,hw2⟩;subst w2)
  |(go_at_call 107;refine (hP _ ?_ _).mono ?_;(first|exact h0|exact h0.below ⟨rfl,rfl,rfl,Nat.le_refl _,fun _ _=>rfl⟩);rintro e w1 ⟨n1,c1,S1,rfl,hR,hN⟩;have y1:=hN.cell Uo z1;have y2:=hN.cell Uo z2;have y5:=hN.cell Uo z5))
 all_goals
  clear hP WT
  go_wp2_with fail
  go_ret
  exact ⟨c1,S1,rfl,hR,(sU.asw (w:=wA) hN rfl rfl rfl rfl).before b0⟩
theorem Ta (h:KN w m H S q A) (_hk:H.ok=true) (hq:q≤90) (hp:(Lit.int .i64 p).wf=true) (_ha:(Lit.int .i64 a).wf=true) (_hb:b≤9223372036854775807) (_hs:s.length<100000) (_ht:t.length<100000) :
 Calls Tryz.prog 33 #[wp H.kb,.agg #[.int .i64 13,.int .i64 p,.int .i64 a,.int .i64 b,.int .i64 c,tx s,tx t]] w (bF w m H S q A p a b c s t 13):=by
 obtain ⟨J,hJ⟩:∃J,w.heap.size=J:=⟨_,rfl⟩
 obtain ⟨xs,hxs⟩:∃xs:Array Value,#[.int .i64 13,.int .i64 p,.int .i64 a,.int .i64 b,.int .i64 c,tx s,tx t]=xs:=⟨_,rfl⟩
 have b0:Below w.heap.size w (w.alloc (.cells xs 71)):=(Below.refl _ _).alloc (Nat.le_refl _) _
 have h0:=h.below b0
 obtain ⟨z0,z1,z2,z3,z4,z5,z6⟩:=aN w (.int .i64 13) (.int .i64 p) (.int .i64 a) (.int .i64 b) (.int .i64 c) (tx s) (tx t) 71
 rw [hxs,hJ] at z0 z1 z2 z3 z4 z5 z6
 go_enter Tryz.func33,Tryz.ntmps33
 go_upto_region 1 with fail
 generalize w.alloc (.cells xs 71)=wA at *
 clear hxs hJ
 have hP:=Pz (a:=a) (b:=b) (c:=c) (s:=s) (t:=t) h0 hq hp
 go_wp2_with (go_at_call 13;refine hP.mono ?_;rintro e w1 ⟨n1,n2,c1,S1,rfl,hR,hN⟩)
 go_ret
 exact ⟨c1,S1,rfl,hR,hN.before b0⟩
theorem SY (h:KN w m H S q A) (_hk:H.ok=true) (_hq:q≤90) (hp:(Lit.int .i64 p).wf=true) (_ha:(Lit.int .i64 a).wf=true) (_hb:b≤9223372036854775807) (_hs:s.length<100000) (_ht:t.length<100000) :
 Calls Tryz.prog 33 #[wp H.kb,.agg #[.int .i64 14,.int .i64 p,.int .i64 a,.int .i64 b,.int .i64 c,tx s,tx t]] w (bF w m H S q A p a b c s t 14):=by
 obtain ⟨J,hJ⟩:∃J,w.heap.size=J:=⟨_,rfl⟩
 obtain ⟨xs,hxs⟩:∃xs:Array Value,#[.int .i64 14,.int .i64 p,.int .i64 a,.int .i64 b,.int .i64 c,tx s,tx t]=xs:=⟨_,rfl⟩
 have b0:Below w.heap.size w (w.alloc (.cells xs 71)):=(Below.refl _ _).alloc (Nat.le_refl _) _
 have h0:=h.below b0
 obtain ⟨z0,z1,z2,z3,z4,z5,z6⟩:=aN w (.int .i64 14) (.int .i64 p) (.int .i64 a) (.int .i64 b) (.int .i64 c) (tx s) (tx t) 71
 rw [hxs,hJ] at z0 z1 z2 z3 z4 z5 z6
 go_enter Tryz.func33,Tryz.ntmps33
 go_upto_region 1 with fail
 generalize w.alloc (.cells xs 71)=wA at *
 clear hxs hJ
 have hP:=Tm (a:=a) (b:=b) (c:=c) (s:=s) (t:=t) h0 hp
 go_wp2_with (go_at_call 108;refine hP.mono ?_;rintro e w1 ⟨n1,c1,S1,rfl,hR,hN⟩)
 go_ret
 exact ⟨c1,S1,rfl,hR,hN.before b0⟩
theorem SX (h:KN w m H S q A) (_hk:H.ok=true) (hq:q≤90) (hp:(Lit.int .i64 p).wf=true) (_ha:(Lit.int .i64 a).wf=true) (_hb:b≤9223372036854775807) (_hs:s.length<100000) (_ht:t.length<100000) :
 Calls Tryz.prog 33 #[wp H.kb,.agg #[.int .i64 15,.int .i64 p,.int .i64 a,.int .i64 b,.int .i64 c,tx s,tx t]] w (bF w m H S q A p a b c s t 15):=by
 obtain ⟨J,hJ⟩:∃J,w.heap.size=J:=⟨_,rfl⟩
 obtain ⟨xs,hxs⟩:∃xs:Array Value,#[.int .i64 15,.int .i64 p,.int .i64 a,.int .i64 b,.int .i64 c,tx s,tx t]=xs:=⟨_,rfl⟩
 have b0:Below w.heap.size w (w.alloc (.cells xs 71)):=(Below.refl _ _).alloc (Nat.le_refl _) _
 have h0:=h.below b0
 obtain ⟨z0,z1,z2,z3,z4,z5,z6⟩:=aN w (.int .i64 15) (.int .i64 p) (.int .i64 a) (.int .i64 b) (.int .i64 c) (tx s) (tx t) 71
 rw [hxs,hJ] at z0 z1 z2 z3 z4 z5 z6
 go_enter Tryz.func33,Tryz.ntmps33
 go_upto_region 1 with fail
 generalize w.alloc (.cells xs 71)=wA at *
 clear hxs hJ
 have hP:=PI (a:=a) (b:=b) (c:=c) (s:=s) (t:=t) h0 hq hp
 go_wp2_with (go_at_call 109;refine hP.mono ?_;rintro e w1 ⟨c1,S1,rfl,hR,hN⟩)
 go_ret
 exact ⟨c1,S1,rfl,hR,hN.before b0⟩
theorem SV (h:KN w m H S q A) (_hk:H.ok=true) (hq:q≤90) (hp:(Lit.int .i64 p).wf=true) (_ha:(Lit.int .i64 a).wf=true) (_hb:b≤9223372036854775807) (_hs:s.length<100000) (_ht:t.length<100000) :
 Calls Tryz.prog 33 #[wp H.kb,.agg #[.int .i64 16,.int .i64 p,.int .i64 a,.int .i64 b,.int .i64 c,tx s,tx t]] w (bF w m H S q A p a b c s t 16):=by
 obtain ⟨J,hJ⟩:∃J,w.heap.size=J:=⟨_,rfl⟩
 obtain ⟨xs,hxs⟩:∃xs:Array Value,#[.int .i64 16,.int .i64 p,.int .i64 a,.int .i64 b,.int .i64 c,tx s,tx t]=xs:=⟨_,rfl⟩
 have b0:Below w.heap.size w (w.alloc (.cells xs 71)):=(Below.refl _ _).alloc (Nat.le_refl _) _
 have h0:=h.below b0
 obtain ⟨z0,z1,z2,z3,z4,z5,z6⟩:=aN w (.int .i64 16) (.int .i64 p) (.int .i64 a) (.int .i64 b) (.int .i64 c) (tx s) (tx t) 71
 rw [hxs,hJ] at z0 z1 z2 z3 z4 z5 z6
 go_enter Tryz.func33,Tryz.ntmps33
 go_upto_region 1 with fail
 generalize w.alloc (.cells xs 71)=wA at *
 clear hxs hJ
 have hP:=L8 (a:=a) (b:=b) (c:=c) (s:=s) (t:=t) h0 hq hp
 go_wp2_with (go_at_call 15;refine hP.mono ?_;rintro e w1 ⟨c1,S1,rfl,hR,hN⟩)
 go_ret
 exact ⟨c1,S1,rfl,hR,hN.before b0⟩
theorem SS (h:KN w m H S q A) (_hk:H.ok=true) (_hq:q≤90) (hp:(Lit.int .i64 p).wf=true) (_ha:(Lit.int .i64 a).wf=true) (_hb:b≤9223372036854775807) (hs:s.length<100000) (_ht:t.length<100000) :
 Calls Tryz.prog 33 #[wp H.kb,.agg #[.int .i64 17,.int .i64 p,.int .i64 a,.int .i64 b,.int .i64 c,tx s,tx t]] w (bF w m H S q A p a b c s t 17):=by
 obtain ⟨J,hJ⟩:∃J,w.heap.size=J:=⟨_,rfl⟩
 obtain ⟨xs,hxs⟩:∃xs:Array Value,#[.int .i64 17,.int .i64 p,.int .i64 a,.int .i64 b,.int .i64 c,tx s,tx t]=xs:=⟨_,rfl⟩
 have b0:Below w.heap.size w (w.alloc (.cells xs 71)):=(Below.refl _ _).alloc (Nat.le_refl _) _
 have h0:=h.below b0
 obtain ⟨z0,z1,z2,z3,z4,z5,z6⟩:=aN w (.int .i64 17) (.int .i64 p) (.int .i64 a) (.int .i64 b) (.int .i64 c) (tx s) (tx t) 71
 rw [hxs,hJ] at z0 z1 z2 z3 z4 z5 z6
 go_enter Tryz.func33,Tryz.ntmps33
 go_upto_region 1 with fail
 generalize w.alloc (.cells xs 71)=wA at *
 clear hxs hJ
 have hP:=LX (a:=a) (b:=b) (c:=c) (s:=s) (t:=t) h0 hp hs
 go_wp2_with (go_at_call 16;refine hP.mono ?_;rintro e w1 ⟨n1,c1,S1,rfl,hR,hN⟩)
 go_ret
 exact ⟨c1,S1,rfl,hR,hN.before b0⟩
theorem SQ (h:KN w m H S q A) (_hk:H.ok=true) (_hq:q≤90) (hp:(Lit.int .i64 p).wf=true) (_ha:(Lit.int .i64 a).wf=true) (_hb:b≤9223372036854775807) (_hs:s.length<100000) (_ht:t.length<100000) :
 Calls Tryz.prog 33 #[wp H.kb,.agg #[.int .i64 18,.int .i64 p,.int .i64 a,.int .i64 b,.int .i64 c,tx s,tx t]] w (bF w m H S q A p a b c s t 18):=by
 obtain ⟨J,hJ⟩:∃J,w.heap.size=J:=⟨_,rfl⟩
 obtain ⟨xs,hxs⟩:∃xs:Array Value,#[.int .i64 18,.int .i64 p,.int .i64 a,.int .i64 b,.int .i64 c,tx s,tx t]=xs:=⟨_,rfl⟩
 have b0:Below w.heap.size w (w.alloc (.cells xs 71)):=(Below.refl _ _).alloc (Nat.le_refl _) _
 have h0:=h.below b0
 obtain ⟨z0,z1,z2,z3,z4,z5,z6⟩:=aN w (.int .i64 18) (.int .i64 p) (.int .i64 a) (.int .i64 b) (.int .i64 c) (tx s) (tx t) 71
 rw [hxs,hJ] at z0 z1 z2 z3 z4 z5 z6
 go_enter Tryz.func33,Tryz.ntmps33
 go_upto_region 1 with fail
 generalize w.alloc (.cells xs 71)=wA at *
 clear hxs hJ
 have hP:=Py (a:=a) (b:=b) (c:=c) (s:=s) (t:=t) h0 hp
 go_wp2_with (go_at_call 19;refine hP.mono ?_;rintro e w1 ⟨n1,c1,S1,rfl,hR,hN⟩)
 go_ret
 exact ⟨c1,S1,rfl,hR,hN.before b0⟩
theorem LW (v:Int) (hv:¬(0≤v∧v≤18)) (h:KN w m H S q A) (hk:H.ok=true) (hq:q≤90) (hp:(Lit.int .i64 p).wf=true) (ha:(Lit.int .i64 a).wf=true) (hb:b≤9223372036854775807) (hs:s.length<100000) (ht:t.length<100000) :
 Calls Tryz.prog 33 #[wp H.kb,.agg #[.int .i64 v,.int .i64 p,.int .i64 a,.int .i64 b,.int .i64 c,tx s,tx t]] w (bF w m H S q A p a b c s t v):=by
 obtain ⟨J,hJ⟩:∃J,w.heap.size=J:=⟨_,rfl⟩
 obtain ⟨xs,hxs⟩:∃xs:Array Value,#[.int .i64 v,.int .i64 p,.int .i64 a,.int .i64 b,.int .i64 c,tx s,tx t]=xs:=⟨_,rfl⟩
 have b0:Below w.heap.size w (w.alloc (.cells xs 71)):=(Below.refl _ _).alloc (Nat.le_refl _) _
 have h0:=h.below b0
 obtain ⟨z0,z1,z2,z3,z4,z5,z6⟩:=aN w (.int .i64 v) (.int .i64 p) (.int .i64 a) (.int .i64 b) (.int .i64 c) (tx s) (tx t) 71
 rw [hxs,hJ] at z0 z1 z2 z3 z4 z5 z6
 have e0:(v == 0)=false:=by simp;omega
 have e1:(v == 1)=false:=by simp;omega
 have e2:(v == 2)=false:=by simp;omega
 have e3:(v == 3)=false:=by simp;omega
 have e4:(v == 4)=false:=by simp;omega
 have e5:(v == 5)=false:=by simp;omega
 have e6:(v == 6)=false:=by simp;omega
 have e7:(v == 7)=false:=by simp;omega
 have e8:(v == 8)=false:=by simp;omega
 have e9:(v == 9)=false:=by simp;omega
 have e10:(v == 10)=false:=by simp;omega
 have e11:(v == 11)=false:=by simp;omega
 have e12:(v == 12)=false:=by simp;omega
 have e13:(v == 13)=false:=by simp;omega
 have e14:(v == 14)=false:=by simp;omega
 have e15:(v == 15)=false:=by simp;omega
 have e16:(v == 16)=false:=by simp;omega
 have e17:(v == 17)=false:=by simp;omega
 have e18:(v == 18)=false:=by simp;omega
 have hP:=fun W (n0:KN W m H S q A)=>Og (c:=c) v hv n0 hk hq hp ha hb hs ht
 clear hv
 go_enter Tryz.func33,Tryz.ntmps33
 go_upto_region 1 with fail
 generalize w.alloc (.cells xs 71)=wA at *
 clear hxs hJ
 have Yu:=hP _ h0
 clear hP
 go_wp2_with (go_at_call 110;refine Yu.mono ?_;rintro e w1 ⟨c1,S1,rfl,hR,hN⟩)
 go_ret
 exact ⟨c1,S1,rfl,hR,hN.before b0⟩
theorem Pn (v:Int) (h:KN w m H S q A) (hk:H.ok=true) (hq:q≤90) (hp:(Lit.int .i64 p).wf=true) (ha:(Lit.int .i64 a).wf=true) (hb:b≤9223372036854775807) (hs:s.length<100000) (ht:t.length<100000) :
 Calls Tryz.prog 33 #[wp H.kb,.agg #[.int .i64 v,.int .i64 p,.int .i64 a,.int .i64 b,.int .i64 c,tx s,tx t]] w (bF w m H S q A p a b c s t v):=by
 by_cases h9:¬(0≤v∧v≤18)
 ·exact LW v h9 h hk hq hp ha hb hs ht
 ·have hc:v=0∨v=1∨v=2∨v=3∨v=4∨v=5∨v=6∨v=7∨v=8∨v=9∨v=10∨v=11∨v=12∨v=13∨v=14∨v=15∨v=16∨v=17∨v=18:=by omega
  rcases hc with rfl|rfl|rfl|rfl|rfl|rfl|rfl|rfl|rfl|rfl|rfl|rfl|rfl|rfl|rfl|rfl|rfl|rfl|rfl
  ·exact VY h hk hq hp ha hb hs ht
  ·exact VX h hk hq hp ha hb hs ht
  ·exact VW h hk hq hp ha hb hs ht
  ·exact VV h hk hq hp ha hb hs ht
  ·exact VU h hk hq hp ha hb hs ht
  ·exact VT h hk hq hp ha hb hs ht
  ·exact VR h hk hq hp ha hb hs ht
  ·exact VQ h hk hq hp ha hb hs ht
  ·exact VP h hk hq hp ha hb hs ht
  ·exact VO h hk hq hp ha hb hs ht
  ·exact Te h hk hq hp ha hb hs ht
  ·exact Td h hk hq hp ha hb hs ht
  ·exact Tc h hk hq hp ha hb hs ht
  ·exact Ta h hk hq hp ha hb hs ht
  ·exact SY h hk hq hp ha hb hs ht
  ·exact SX h hk hq hp ha hb hs ht
  ·exact SV h hk hq hp ha hb hs ht
  ·exact SS h hk hq hp ha hb hs ht
  ·exact SQ h hk hq hp ha hb hs ht
end
abbrev Hg:=List (Nat×Nat×Value)
def KC (w0 w:World) (m:Int) (kb:Nat) (C:Hg) (S:KS) (q:Nat):Prop:=
 ∃H A,(H.kb=kb∧H.ok=true)∧KN w m H S q A∧(∀i,A i→w0.heap.size≤i)∧Below w0.heap.size w0 w∧∀y∈C,w.cell? ⟨y.1,y.2.1,none⟩=some y.2.2∧¬A y.1
def lS (b:Nat) (L:List Int):Hg:=(List.range L.length).map fun i=>(b,i,.int .i64 (L.getD i 0))
structure CI where
 what:Int
 p:Int
 a:Int
 b:Int
 c:Int
 s:List UInt8
 t:List UInt8
structure CI.ok (x:CI):Prop where
 p:(Lit.int .i64 x.p).wf=true
 a:(Lit.int .i64 x.a).wf=true
 b:x.b≤9223372036854775807
def wu (w:World) (ad:Option Addr) (len:Nat) (q:Nat→CI):Prop:=
 len=0∨∃blk off,ad=some ⟨blk,off,none⟩∧blk<w.heap.size∧∀i,i<len→(w.cell? ⟨blk,off+i*7,none⟩=some (.int .i64 (q i).what)∧w.cell? ⟨blk,off+i*7+1,none⟩=some (.int .i64 (q i).p)∧w.cell? ⟨blk,off+i*7+2,none⟩=some (.int .i64 (q i).a)∧w.cell? ⟨blk,off+i*7+3,none⟩=some (.int .i64 (q i).b)∧w.cell? ⟨blk,off+i*7+4,none⟩=some (.int .i64 (q i).c)∧w.cell? ⟨blk,off+i*7+5,none⟩=some (tx (q i).s)∧w.cell? ⟨blk,off+i*7+6,none⟩=some (tx (q i).t))∧(q i).ok
section
variable {w0 w w':World}{m:Int}{kb q q':Nat}{C:Hg}{S S':KS}{p a b c v:Int}{s t:List UInt8}{o:Ow}
theorem KC.He (h:KC w0 w m kb C S q):Below w0.heap.size w0 w:=by obtain ⟨_,_,_,_,_,b,_⟩:=h;exact b
theorem KC.er (h:KC w0 w m kb C S q):w.cell? ⟨0,0,none⟩=some fJ:=by obtain ⟨_,_,_,k,_⟩:=h;exact k.1.er
theorem KC.at (h:KC w0 w m kb C S q) {x i:Nat}{v:Value}(hm:(x,i,v)∈C):w.cell? ⟨x,i,none⟩=some v:=by obtain ⟨_,_,_,_,_,_,hC⟩:=h;exact (hC _ hm).1
theorem KC.below (h:KC w0 w m kb C S q) (b:Below w.heap.size w w'):KC w0 w' m kb C S q:=by
 obtain ⟨H,A,e,k,hA,hb,hC⟩:=h
 exact ⟨H,A,e,k.below b,hA,hb.trans (b.mono hb.size),fun y hy=>⟨by rw [b.cell (p:=⟨y.1,y.2.1,none⟩) (World.block_lt_of_cell? w _ (hC y hy).1)];exact (hC y hy).1,(hC y hy).2⟩⟩
theorem KC.more (h:KC w0 w m kb C S q) (hq:q≤q'):KC w0 w m kb C S q':=by
 obtain ⟨H,A,e,k,r⟩:=h
 exact ⟨H,A,e,k.more hq,r⟩
theorem KC.sub (h:KC w0 w m kb C S q) {C':Hg}(hs:∀y∈C',y∈C):KC w0 w m kb C' S q:=by
 obtain ⟨H,A,e,k,hA,hb,hC⟩:=h
 exact ⟨H,A,e,k,hA,hb,fun y hy=>hC y (hs y hy)⟩
theorem KC.add (h:KC w0 w m kb C S q) (b:Below w.heap.size w w') {C':Hg}(hs:∀y∈C',w'.cell? ⟨y.1,y.2.1,none⟩=some y.2.2∧w.heap.size≤y.1):KC w0 w' m kb (C' ++ C) S q:=by
 obtain ⟨H,A,e,k,hA,hb,hC⟩:=h
 refine ⟨H,A,e,k.below b,hA,hb.trans (b.mono hb.size),fun y hy=>?_⟩
 rcases List.mem_append.1 hy with z|z
 ·exact ⟨(hs y z).1,fun z2=>by have:=k.1.lt _ z2;have:=(hs y z).2;omega⟩
 ·exact ⟨by rw [b.cell (p:=⟨y.1,y.2.1,none⟩) (World.block_lt_of_cell? w _ (hC y z).1)];exact (hC y z).1,(hC y z).2⟩
theorem KC.nxt {H:KH}{A:Nat→Prop}(e:H.kb=kb∧H.ok=true) (hA:∀i,A i→w0.heap.size≤i) (hb:Below w0.heap.size w0 w) (hC:∀y∈C,w.cell? ⟨y.1,y.2.1,none⟩=some y.2.2∧¬A y.1) (n:sU w m H q A S' w'):KC w0 w' m kb C S' (q+1):=by
 obtain ⟨H',A',⟨e1,e2⟩,k,st⟩:=n
 exact ⟨H',A',⟨e1.trans e.1,e2.trans e.2⟩,k,fun i hi=>by
  rcases st.own i hi with z|z
  ·exact hA i z
  ·exact Nat.le_trans hb.size z,Stp.toBelow hb hA st,fun y hy=>st.aW (hC y hy).1 (hC y hy).2⟩
theorem KC.lift {β:Type} {fn:FuncId}{args:Array Value}{y9:β→Ending}{R:β→KS→Prop}(h:KC w0 w m kb C S q)
 (f:∀(H:KH) (A:Nat→Prop),H.kb=kb→H.ok=true→KN w m H S q A→Calls Tryz.prog fn args w fun y w'=>∃x S',y=y9 x∧R x S'∧sU w m H q A S' w') :
 Calls Tryz.prog fn args w fun y w'=>∃x S',y=y9 x∧R x S'∧KC w0 w' m kb C S' (q+1):=by
 obtain ⟨H,A,e,k,hA,hb,hC⟩:=h
 refine (f H A e.1 e.2 k).mono ?_
 rintro y w' ⟨x,S',h1,h2,n⟩
 exact ⟨x,S',h1,h2,KC.nxt e hA hb hC n⟩
theorem KC.call (h:KC w0 w m kb C S q) (hq:q≤90) (x:CI) (ok:x.ok) (hs:x.s.length≤100) (ht:x.t.length≤60) :
 Calls Tryz.prog 33 #[wp kb,.agg #[.int .i64 x.what,.int .i64 x.p,.int .i64 x.a,.int .i64 x.b,.int .i64 x.c,tx x.s,tx x.t]] w fun y w'=>∃e S',y=.returned (aJ e)∧aX S x.p x.a x.b x.c x.s x.t x.what e S'∧KC w0 w' m kb C S' (q+1):=
 h.lift (y9:=fun e=>.returned (aJ e)) fun H A e1 e2 k=>by rw [←e1];exact Pn x.what k e2 hq ok.p ok.a ok.b (by omega) (by omega)
theorem KC.exit (h:KC w0 w m kb C S q) (hq:q≤90) (ho:S.O p=some o) (h1:p≠1) (c:Int) :
 Calls Tryz.prog 20 #[wp kb,.int .i64 p,.int .i64 c] w fun y w'=>y=.returned .nilIface∧KC w0 w' m kb C (aM S p o c) q:=by
 obtain ⟨H,A,e,k,hA,hb,hC⟩:=h
 rw [←e.1]
 refine (k.xe ho (by omega) c).mono ?_
 rintro y w' ⟨rfl,A',k',st⟩
 unfold tN nC at *
 rw [if_neg h1] at k' ⊢
 exact ⟨rfl,H,A',⟨rfl,e.2⟩,k',fun i hi=>by
  rcases st.own i hi with z|z
  ·exact hA i z
  ·exact Nat.le_trans hb.size z,Stp.toBelow hb hA st,fun y hy=>st.aW (hC y hy).1 (hC y hy).2⟩
theorem KC.wait (h:KC w0 w m kb C S q) (ho:S.O p=some o) :
 Calls Tryz.prog 36 #[wp kb,.int .i64 p] w fun y w'=>y=.returned (.tuple #[.int .i64 (aI S.P p).1,.int .i64 (aI S.P p).2.1,aJ (aI S.P p).2.2.1])∧KC w0 w' m kb C (S.procs (aI S.P p).2.2.2) q:=by
 obtain ⟨H,A,e,k,hA,hb,hC⟩:=h
 rw [←e.1]
 refine (k.Db ho).mono ?_
 rintro y w' ⟨rfl,A',k',st⟩
 exact ⟨rfl,H,A',⟨rfl,e.2⟩,k',fun i hi=>by
  rcases st.own i hi with z|z
  ·exact hA i z
  ·exact Nat.le_trans hb.size z,Stp.toBelow hb hA st,fun y hy=>st.aW (hC y hy).1 (hC y hy).2⟩
theorem KC.kn (h:KC w0 w m kb C S q):∃H A,KN w m H S q A:=by obtain ⟨H,A,_,k,_⟩:=h;exact ⟨H,A,k⟩
theorem qO {b:Nat}{L:List Int}{i:Nat}(hi:i<L.length):(b,i,Value.int .i64 L[i])∈lS b L:=by
 unfold lS
 rw [List.mem_map]
 exact ⟨i,List.mem_range.2 hi,by rw [List.getD_eq_getElem?_getD,List.getElem?_eq_getElem hi];rfl⟩
theorem KC.jr (h:KC w0 w m kb C S q):Calls Tryz.prog 34 #[wp kb] w fun e w'=>∃b cap,e=.returned (.slice (some ⟨b,0,none⟩) (af S.P).length cap)∧(af S.P).length≤cap∧KC w0 w' m kb (lS b (af S.P) ++ C) S q∧Below w.heap.size w w':=by
 have h':=h
 obtain ⟨H,A,e,k,hA,hb,hC⟩:=h'
 rw [←e.1]
 refine k.1.jr.mono ?_
 rintro y w' ⟨b,cap,rfl,hcap,hbg,hbl,hH,hB⟩
 refine ⟨b,cap,rfl,hcap,?_,hB⟩
 rw [e.1]
 refine h.add hB fun y hy=>?_
 unfold lS at hy
 rw [List.mem_map] at hy
 obtain ⟨i,hi,rfl⟩:=hy
 have hi:=List.mem_range.1 hi
 have:=(hH i (by simpa using hi)).1
 refine ⟨?_,hbg⟩
 show w'.cell? ⟨b,i,none⟩=_
 rw [Nat.zero_add] at this
 rw [this]
 show some (encZ _)=_
 unfold encZ
 rw [List.getD_eq_getElem?_getD,List.getElem?_eq_getElem hi,getElem!_pos _ i (by simpa using hi)]
 simp
theorem KC.state (h:KC w0 w m kb C S q) (n:Int) (hn:(Lit.int .i64 n).wf=true):Calls Tryz.prog 35 #[wp kb,.int .i64 n] w fun e w'=>e=.returned (.int .i64 (gJ S.P n))∧KC w0 w' m kb C S q∧Below w.heap.size w w':=by
 have h':=h
 obtain ⟨H,A,e,k,_⟩:=h'
 rw [←e.1]
 refine (k.1.state n hn).mono ?_
 rintro y w' ⟨rfl,hB⟩
 rw [e.1]
 exact ⟨rfl,h.below hB,hB⟩
theorem KC.jm (h:KC w0 w m kb C S q) (ho:S.O p=some o):Calls Tryz.prog 38 #[wp kb,.int .i64 p] w fun e w'=>e=.returned (.tuple #[.int .i64 (bN (aK S o.j):Nat),.int .i64 (iq (aK S o.j):Nat),.int .i64 (aj (ax S o.j):Nat),.nilIface])∧KC w0 w' m kb C S q∧Below w.heap.size w w':=by
 have h':=h
 obtain ⟨H,A,e,k,_⟩:=h'
 rw [←e.1]
 refine (k.1.jm ho).mono ?_
 rintro y w' ⟨rfl,hB⟩
 rw [e.1]
 exact ⟨rfl,h.below hB,hB⟩
theorem KC.FJ (h:KC w0 w m kb C S q) (ho:S.O p=none) (hp:(Lit.int .i64 p).wf=true):Calls Tryz.prog 38 #[wp kb,.int .i64 p] w fun e w'=>e=.returned (.tuple #[.int .i64 0,.int .i64 0,.int .i64 0,eX 7])∧KC w0 w' m kb C S q∧Below w.heap.size w w':=by
 have h':=h
 obtain ⟨H,A,e,k,_⟩:=h'
 rw [←e.1]
 refine (k.1.FJ ho hp).mono ?_
 rintro y w' ⟨rfl,rfl⟩
 rw [e.1]
 exact ⟨rfl,h,Below.refl _ _⟩
theorem KC.load (h:KC w0 w m kb C S q) (ho:S.O p=some o) (a k:Int) (ha:(Lit.int .i64 a).wf=true):Calls Tryz.prog 44 #[wp kb,.int .i64 p,.int .i64 a,.int .i64 k] w fun y w'=>y=.returned (.tuple #[.int .i64 (fV (aK S o.j) S.W a k),aJ (eP (aK S o.j) a k 1)])∧Below w.heap.size w w':=by
 obtain ⟨H,A,e,k9,_⟩:=h
 rw [←e.1]
 exact k9.1.DJ ho a k ha
theorem KC.left (h:KC w0 w m kb C S q):Calls Tryz.prog 39 #[wp kb] w fun e w'=>e=.returned (.int .i64 ((S.n-used (jq S.Ms) S.n:Nat):Int))∧w'=w:=by
 obtain ⟨H,A,e,k,_⟩:=h
 rw [←e.1]
 exact k.1.left
theorem KC.opens (h:KC w0 w m kb C S q) {n:Nat}(hn:qa S.D.E n):Calls Tryz.prog 21 #[wp kb] w fun e w'=>e=.returned (.int .i64 (n:Int))∧w'=w:=by
 obtain ⟨H,A,e,k,_⟩:=h
 rw [←e.1]
 exact k.1.pF hn
theorem KC.nodes (h:KC w0 w m kb C S q) {n:Nat}(hn:dm S.D.T n):Calls Tryz.prog 102 #[wp kb] w fun e w'=>e=.returned (.int .i64 (n:Int))∧w'=w:=by
 obtain ⟨H,A,e,k,_⟩:=h
 rw [←e.1]
 exact k.1.mF hn
theorem KC.wf (h:KC w0 w m kb C S q) (hp:p∈af S.P):(Lit.int .i64 p).wf=true:=by
 obtain ⟨H,A,e,k,_⟩:=h
 obtain ⟨G,g,_⟩:=k.1
 obtain ⟨c,qj⟩:=g.qj
 obtain ⟨r,hr⟩:=Option.isSome_iff_exists.1 (qj.ok.jr.1 hp)
 exact CK (qj.key p r hr)
theorem KC.Mj (h:KC w0 w m kb C S q):lV S.P:=by
 obtain ⟨H,A,e,k,_⟩:=h
 obtain ⟨G,g,_⟩:=k.1
 obtain ⟨c,qj⟩:=g.qj
 exact qj.ok
theorem KC.Hu (_h:KC w0 w m kb C S q):(af S.P).length≤24:=mX S.P
theorem VB (w w1:World) (hb:Below w.heap.size w w1) (n:Nat) (h1:1≤n) (h2:n≤256) (hm:w.cell? ⟨4,0,none⟩=some (.int .i64 m)) (he:w.cell? ⟨0,0,none⟩=some fJ) (ht:mi w) :
 Calls Tryz.prog 12 #[.int .i64 (n:Int)] w1 fun y w'=>∃kb,y=.returned (.tuple #[wp kb,.nilIface])∧KC w w' m kb [] (iA n) 0:=by
 have sN:4<w.heap.size:=World.block_lt_of_cell? w _ hm
 have hel:0<w.heap.size:=World.block_lt_of_cell? w _ he
 have htl:2<w.heap.size:=ht.lt
 refine (sH (ok:=true) w1 n h1 h2 (by rw [hb.cell (p:=⟨4,0,none⟩) sN];exact hm) (by rw [hb.cell (p:=⟨0,0,none⟩) hel];exact he) ⟨Nat.lt_of_lt_of_le htl hb.size,fun _=>ht.keep (hb.block _ htl)⟩).mono ?_
 rintro y w' ⟨H,A,rfl,k,hA,hB,hk⟩
 exact ⟨H.kb,rfl,H,A,⟨rfl,hk⟩,k,fun i hi=>Nat.le_trans hb.size (hA i hi),hb.trans (hB.mono hb.size),fun y hy=>by cases hy⟩
end
def og (q:Nat→CI) (len:Nat):Prop:=len≤40∧∀i,i<len→(q i).s.length≤100∧(q i).t.length≤60
def Wh (q:Nat→CI) (len:Nat) (w:World) (e:Ending) (w':World):Prop:=∃b,e=.returned (.bool b)∧(b=true↔og q len)∧w'=w
theorem Aq (ad:Option Addr) (len cap:Nat) (q:Nat→CI) (w:World) (hsc:wu w ad len q) :
 Calls Tryz.prog 31 #[.slice ad len cap] w (Wh q len w):=by
 by_cases h1:(40:Int)<(len:Int)
 ·clear hsc
  go_enter Tryz.func31,Tryz.ntmps31
  go_wp2_with fail
  go_ret
  exact ⟨false,rfl,⟨fun h=>(by cases h),fun h=>(by have:=h.1;omega)⟩,rfl⟩
 ·go_enter Tryz.func31,Tryz.ntmps31
  go_wp2_with fail
  go_loopg [3] len (fun g s3 wr=>∃i:Nat,i+g=len∧s3=.int .i64 (i:Int)∧wr=w∧Aside (∀j,j<i→(q j).s.length≤100∧(q j).t.length≤60))
  case atStart=>exact ⟨0,by omega,rfl,rfl,fun j hj=>by omega⟩
  case round=>
   obtain ⟨i,hi,rfl,hw,HS⟩:=hrel
   subst hw
   obtain ⟨G0,hG0⟩:∃G0,gk=G0:=⟨_,rfl⟩
   by_cases hlt:(i:Int)<(len:Int)
   ·rcases hsc with h0|⟨blk,off,rfl,hbl,hss⟩
    ·exfalso;omega
    obtain ⟨⟨_,_,_,_,_,c5,c6⟩,_⟩:=hss i (by omega)
    clear hss
    have HX:Aside (∀X,(q i).s=X→∀Y,(q i).t=Y→X.length≤100→Y.length≤60→∀j,j<i+1→(q j).s.length≤100∧(q j).t.length≤60):=fun X hX Y hY h3 h4 j hj=>by
     by_cases e:j=i
     ·rw [e,hX,hY];exact ⟨h3,h4⟩
     ·exact HS.out j (by omega)
    have HN:Aside (∀X,(q i).s=X→∀Y,(q i).t=Y→¬(X.length≤100∧Y.length≤60)→¬og q len):=fun X hX Y hY h3 h4=>by
     have:=h4.2 i (by omega)
     rw [hX,hY] at this
     exact h3 this
    obtain ⟨X,hX⟩:∃X,(q i).s=X:=⟨_,rfl⟩
    obtain ⟨Y,hY⟩:∃Y,(q i).t=Y:=⟨_,rfl⟩
    rw [hX] at c5
    rw [hY] at c6
    have HX2:Aside (X.length≤100→Y.length≤60→∀j,j<i+1→(q j).s.length≤100∧(q j).t.length≤60):=HX.out X hX Y hY
    have vo:Aside (¬(X.length≤100∧Y.length≤60)→¬og q len):=HN.out X hX Y hY
    clear HX HN hX hY HS
    by_cases l1:(100:Int)<(X.length:Int)
    ·go_wp2_with fail
     go_ret
     exact ⟨false,rfl,⟨fun h=>(by cases h),fun h=>absurd h (vo.out (by omega))⟩,rfl⟩
    ·by_cases l2:(60:Int)<(Y.length:Int)
     ·go_wp2_with fail
      go_ret
      exact ⟨false,rfl,⟨fun h=>(by cases h),fun h=>absurd h (vo.out (by omega))⟩,rfl⟩
     ·go_wp2_with fail
      go_roundg (G0-1)
      case measure=>omega
      case rel=>exact ⟨i+1,by omega,by go_num,rfl,HX2.out (by omega) (by omega)⟩
   ·clear hsc
    go_wp2_with fail
    go_ret
    exact ⟨true,rfl,⟨fun _=>⟨by omega,fun j hj=>HS.out j (by omega)⟩,fun _=>rfl⟩,rfl⟩
theorem uD (ad:Option Addr) (len cap:Nat) (q:Nat→CI) (w:World) (hsc:wu w ad len q) (h:og q len):Calls Tryz.prog 31 #[.slice ad len cap] w fun e w'=>e=.returned (.bool true)∧w'=w:=by
 refine (Aq ad len cap q w hsc).mono ?_
 rintro e w' ⟨b,rfl,hb,rfl⟩
 rw [hb.2 h]
 exact ⟨rfl,rfl⟩
theorem Eh (ad:Option Addr) (len cap:Nat) (q:Nat→CI) (w:World) (hsc:wu w ad len q) (h:¬og q len):Calls Tryz.prog 31 #[.slice ad len cap] w fun e w'=>e=.returned (.bool false)∧w'=w:=by
 refine (Aq ad len cap q w hsc).mono ?_
 rintro e w' ⟨b,rfl,hb,rfl⟩
 cases b with
 |false=>exact ⟨rfl,rfl⟩
 |true=>exact absurd (hb.1 rfl) h
theorem wu.keep {w w':World}{ad:Option Addr}{len:Nat}{q:Nat→CI}(h:wu w ad len q) (hb:Below w.heap.size w w'):wu w' ad len q:=by
 rcases h with h0|⟨blk,off,rfl,hbl,hss⟩
 ·exact .inl h0
 ·refine .inr ⟨blk,off,rfl,Nat.lt_of_lt_of_le hbl hb.size,fun i hi=>?_⟩
  simp only [hb.cell (p:=⟨blk,_,none⟩) hbl]
  exact hss i hi
end Go.Proofs.YtcfhanoekniaaaaGreatDoor
namespace Go.Proofs.YtcfhanoekniaaaaGreatDoor
section
variable {S S':KS}{p:Int}{o:Ow}{pg fd:Int}
theorem M6 {x:Int}{o':Ow}{c:Int}(h:(aM S p o c).O x=some o'):x≠p∧S.O x=some o':=by
 have h:iL S.O p x=some o':=h
 unfold iL at h
 split at h
 ·cases h
 ·rename_i z;exact ⟨z,h⟩
theorem PL {x:Int}{c:Int}(h:x≠p):(aM S p o c).O x=S.O x:=by show iL S.O p x=_;unfold iL;rw [if_neg h]
end
section
variable {w:World}{m:Int}{H:KH}{S S':KS}{q:Nat}{A:Nat→Prop}{p a b c k v:Int}{s t:List UInt8}{o:Ow}{pg fd:Int}
structure Qq (S:KS):Prop where
 len:S.Ms.length=S.Ts.length
 lt:∀p o,S.O p=some o→o.j<S.Ts.length
 inj:∀p o p' o',S.O p=some o→S.O p'=some o'→o.j=o'.j→p=p'
theorem KN.lie (h:KN w m H S q A):Qq S:=by
 obtain ⟨⟨G,k,_⟩,_⟩:=h
 exact ⟨k.len,k.lt,fun p o p' o' h1 h2 e=>k.hinj p o p' o' h1 h2 (by rw [e])⟩
theorem Qq.ends (h:Qq S) (c:Int):Qq (aM S p o c):=
 ⟨by show (S.Ms.set o.j jW).length=(S.Ts.set o.j bn).length;rw [List.length_set,List.length_set];exact h.len,
  fun x o' ho=>by show o'.j<(S.Ts.set o.j bn).length;rw [List.length_set];exact h.lt x o' (M6 ho).2,
  fun x o1 y o2 h1 h2 e=>h.inj x o1 y o2 (M6 h1).2 (M6 h2).2 e⟩
end
end Go.Proofs.YtcfhanoekniaaaaGreatDoor
namespace Go.Proofs.YtcfhanoekniaaaaGreatDoor
open Go.RowKit Go.Maps Go.Sort
theorem Ko {P P':Ps}(h:∀n,(P' n).isSome=(P n).isSome):af P'=af P:=by
 unfold af;congr 1;funext n;exact h n
theorem Rz (P:Ps) (n:Int) (f:Pr→Pr):af (q8 P n f)=af P:=Ko (fun i=>Gi f i)
theorem Om {P:Ps}(h:lV P):∃R,af P=1 :: R:=by
 obtain ⟨p,e,_⟩:=h.one
 have hm:(1:Int)∈af P:=h.jr.2 (by rw [e];rfl)
 have hr:=nU P
 cases hp:af P with
 |nil=>rw [hp] at hm;cases hm
 |cons x R=>
  rw [hp] at hm hr
  rcases List.mem_cons.1 hm with e1|e1
  ·exact ⟨R,by rw [e1]⟩
  ·exfalso
   have h1:=(List.pairwise_cons.1 hr).1 1 e1
   have h2:x∈af P:=by rw [hp];exact List.mem_cons_self
   obtain ⟨q,hq⟩:=Option.isSome_iff_exists.1 (h.jr.1 h2)
   have:=h.key x q hq
   omega
end Go.Proofs.YtcfhanoekniaaaaGreatDoor
namespace Go.Proofs.YtcfhanoekniaaaaGreatDoor
section
variable {S S':KS}{p a k v:Int}{o:Ow}
theorem BG:∀ {l:List Nat}{x:Nat},x∈l→x≤l.sum
 |y :: l,x,h=>by
  rw [List.sum_cons]
  rcases List.mem_cons.1 h with rfl|h
  ·omega
  ·have:=BG h;omega
theorem NZ {P:Ps}{x:Int}(h:az P x=true):gJ P x=1:=by
 unfold az at h;exact of_decide_eq_true h
theorem UZ (kk:pq S) {x:Int}{ox:Ow}(hx:S.O x=some ox) (c:Int):gJ (aM S x ox c).P x=2:=by
 show gJ (bX S.P x c) x=2
 have hr:az S.P x=true:=by rw [←kk.run x,hx];rfl
 obtain ⟨q,hq,_⟩:=bq.1 hr
 rw [rZ,if_pos ⟨rfl,by rw [hq];rfl⟩]
end
end Go.Proofs.YtcfhanoekniaaaaGreatDoor
namespace Go.Proofs.YtcfhanoekniaaaaGreatDoor
open Go.RowKit Go.Maps
def ny (P:Ps) (L:List Int):Nat:=(L.filter fun x=>gJ P x == 1).length
def eY (S:KS):Nat:=ny S.P (af S.P)
theorem LJ (P:Ps) {L:List Int}{j:Nat}(hj:j<L.length):ny P (L.take (j+1))=ny P (L.take j)+if gJ P L[j]=1 then 1 else 0:=by
 unfold ny
 rw [List.take_succ_eq_append_getElem hj,List.filter_append,List.length_append]
 by_cases h:gJ P L[j]=1
 ·simp [h]
 ·simp [h]
theorem Jd (P:Ps) (L:List Int):ny P L≤L.length:=List.length_filter_le _ _
section
variable {w0 w:World}{m:Int}{kb q:Nat}{C:Hg}{S:KS}
theorem KC.runs (h:KC w0 w m kb C S q) :
 Calls Tryz.prog 40 #[wp kb] w fun e w'=>e=.returned (.int .i64 (eY S:Int))∧Below w.heap.size w w':=by
 have PV:=h.jr
 have Xy:=h.Hu
 have HB:Aside (∀j,ny S.P ((af S.P).take j)≤24):=fun j=>by
  have h1:=Jd S.P ((af S.P).take j)
  have h2:=List.length_take_le' j (af S.P)
  omega
 go_enter Tryz.func40,Tryz.ntmps40
 go_upto_region 3 with (go_at_call 34;refine PV.mono ?_;rintro e w6 ⟨bp,cp,rfl,hcp,k6,b6⟩)
 have HM:Aside (∀j (hj:j<(af S.P).length),(bp,j,Value.int .i64 (af S.P)[j])∈lS bp (af S.P) ++ C):=fun j hj=>List.mem_append_left _ (qO hj)
 have HW:Aside (∀x∈af S.P,(Lit.int .i64 x).wf=true):=fun x hx=>k6.wf hx
 have HE:Aside (((ny S.P ((af S.P).take (af S.P).length):Nat):Int)=(eY S:Int)):=by
  show ((ny S.P ((af S.P).take (af S.P).length):Nat):Int)=(eY S:Int)
  rw [List.take_length];rfl
 generalize Uq:lS bp (af S.P) ++ C=C9 at *
 clear Uq PV h
 generalize af S.P=L at *
 go_wp2_with fail
 go_loopg [3,5,9] L.length (fun g s3 _ s9 wx=>∃j:Nat,Aside (j+g=L.length)∧s9=.int .i64 (j:Int)∧s3=.int .i64 ((ny S.P (L.take j):Nat):Int)∧KC w0 wx m kb C9 S q∧Below w.heap.size w wx)
 case atStart=>exact ⟨0,(show 0+L.length=L.length by omega),rfl,rfl,k6,b6⟩
 case round=>
  clear k6 b6
  obtain ⟨j,HJ,rfl,rfl,k6,b6⟩:=hrel
  by_cases hjl:(j:Int)<(L.length:Int)
  ·have sQ:j<L.length:=by omega
   have cj:=k6.at (HM.out j sQ)
   have hSt:=k6.state L[j] (HW.out L[j] (List.getElem_mem sQ))
   have HN:Aside (ny S.P (L.take (j+1))=ny S.P (L.take j)+if gJ S.P L[j]=1 then 1 else 0):=LJ S.P sQ
   have hcj:(j:Int)<(cp:Int):=by omega
   have Ha:=HB.out j
   generalize L[j]=p9 at *
   generalize hc0:ny S.P (L.take j)=cn at *
   by_cases h1:gJ S.P p9=1
   ·have vo:Aside (ny S.P (L.take (j+1))=cn+1):=by show _=_;rw [HN.out,if_pos h1]
    rw [h1] at hSt
    clear HN
    go_wp2_with (go_at_call 35;refine hSt.mono ?_;rintro e wa ⟨rfl,ka,ba⟩)
    go_roundg (gk-1)
    case measure=>have:=HJ.out;omega
    case rel=>exact ⟨j+1,(show j+1+(gk-1)=L.length by have:=HJ.out;omega),by go_num,by rw [vo.out];go_num,ka,b6.trans (ba.mono b6.size)⟩
   ·have vo:Aside (ny S.P (L.take (j+1))=cn):=by show _=_;rw [HN.out,if_neg h1,Nat.add_zero]
    have hx:(gJ S.P p9 == 1)=false:=by simpa using h1
    generalize gJ S.P p9=sv at *
    clear HN
    go_wp2_with (go_at_call 35;refine hSt.mono ?_;rintro e wa ⟨rfl,ka,ba⟩)
    go_roundg (gk-1)
    case measure=>have:=HJ.out;omega
    case rel=>exact ⟨j+1,(show j+1+(gk-1)=L.length by have:=HJ.out;omega),by go_num,by rw [vo.out],ka,b6.trans (ba.mono b6.size)⟩
  ·obtain rfl:j=L.length:=by have:=HJ.out;omega
   rw [HE.out]
   go_wp2_with fail
   go_ret
   exact ⟨rfl,b6⟩
end
end Go.Proofs.YtcfhanoekniaaaaGreatDoor

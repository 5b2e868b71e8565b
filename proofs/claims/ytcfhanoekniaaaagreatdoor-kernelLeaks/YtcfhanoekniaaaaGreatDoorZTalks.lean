/- A kernel: what Map, File, Pipe, Dup, Dup2 tell of one that does not run. -/
import Derived.Test.YtcfhanoekniaaaaGreatDoorZDup2
import Derived.Test.YtcfhanoekniaaaaGreatDoorZNo
import Derived.Test.YtcfhanoekniaaaaGreatDoorZPipe
import Derived.Test.YtcfhanoekniaaaaGreatDoorWAbs
import Derived.WalkKit
import Derived.Test.YtcfhanoekniaaaaGreatDoorPick
import Derived.Deep.LoopGhost
import Derived.Deep.DeepCutAuto
import Derived.Deep.CutBlock
set_option maxHeartbeats 4000000
set_option maxRecDepth 100000
namespace Go.Proofs.YtcfhanoekniaaaaGreatDoor
open Go.RowKit Go.Maps
section
variable {w w':World}{m:Int}{H:KH}{S:KS}{U:Nat→Nat→Int}{q:Nat}{A:Nat→Prop}{p:Int}{o:Ow}
theorem KX.map_no (h:KX w m H S U q A) (ho:S.O p=none) (hp:(Lit.int .i64 p).wf=true) (x y z:Int) :
 Calls Tryz.prog 45 #[wp H.kb,.int .i64 p,.int .i64 x,.int .i64 y,.int .i64 z] w fun y w'=>y=.returned (uer 7)∧Below w.heap.size w w':=by
 have hF:=fun W (hb:Below w.heap.size w W)=>(h.below hb).find_no ho hp
 have HF:Aside _:=hF
 clear h ho hF
 go_enter Tryz.func45,Tryz.ntmps45
 go_upto_region 1 with fail
 obtain ⟨b3,s3,c1,c2,c3⟩:=box3 w (.int .i64 x) (.int .i64 y) (.int .i64 z) 3 3 3
 have f3:=(box1 ((w.alloc (.cells #[.int .i64 x] 3)).alloc (.cells #[.int .i64 y] 3)) (.int .i64 z) 3).2.2.2
 rw [(box2 w (.int .i64 x) (.int .i64 y) 3 3).2.1] at f3
 have f2:(((w.alloc (.cells #[.int .i64 x] 3)).alloc (.cells #[.int .i64 y] 3)).alloc (.cells #[.int .i64 z] 3)).frozen? ⟨w.heap.size+1,0,none⟩=false:=by
  have:=(box1 (w.alloc (.cells #[.int .i64 x] 3)) (.int .i64 y) 3).2.2.2
  rw [(box1 w (.int .i64 x) 3).2.1] at this
  exact frozenUp ((Below.refl _ _).alloc (Nat.le_refl _) _) (by rw [(box2 w (.int .i64 x) (.int .i64 y) 3 3).2.1];omega) this
 generalize ((w.alloc (.cells #[.int .i64 x] 3)).alloc (.cells #[.int .i64 y] 3)).alloc (.cells #[.int .i64 z] 3)=W at *
 have hF:=HF.out W b3
 clear HF f2 f3
 go_wp2_with (go_at_call 51;refine hF.mono ?_;rintro e w1 ⟨rfl,hw⟩;subst w1)
 go_ret
 exact ⟨rfl,b3.alloc b3.size _⟩
theorem KX.dup2_no (h:KX w m H S U q A) (ho:S.O p=none) (hp:(Lit.int .i64 p).wf=true) (x y:Int) :
 Calls Tryz.prog 109 #[wp H.kb,.int .i64 p,.int .i64 x,.int .i64 y] w fun y w'=>y=.returned (uer 7)∧Below w.heap.size w w':=by
 have hF:=fun W (hb:Below w.heap.size w W)=>(h.below hb).find_no ho hp
 have HF:Aside _:=hF
 clear h ho hF
 go_enter Tryz.func109,Tryz.ntmps109
 go_upto_region 1 with fail
 obtain ⟨b3,s3,c1,c2,c3⟩:=box3 w (wp H.kb) (.int .i64 x) (.int .i64 y) 25 3 3
 have f3:=(box1 ((w.alloc (.cells #[wp H.kb] 25)).alloc (.cells #[.int .i64 x] 3)) (.int .i64 y) 3).2.2.2
 rw [(box2 w (wp H.kb) (.int .i64 x) 25 3).2.1] at f3
 have f2:(((w.alloc (.cells #[wp H.kb] 25)).alloc (.cells #[.int .i64 x] 3)).alloc (.cells #[.int .i64 y] 3)).frozen? ⟨w.heap.size+1,0,none⟩=false:=by
  have:=(box1 (w.alloc (.cells #[wp H.kb] 25)) (.int .i64 x) 3).2.2.2
  rw [(box1 w (wp H.kb) 25).2.1] at this
  exact frozenUp ((Below.refl _ _).alloc (Nat.le_refl _) _) (by rw [(box2 w (wp H.kb) (.int .i64 x) 25 3).2.1];omega) this
 generalize ((w.alloc (.cells #[wp H.kb] 25)).alloc (.cells #[.int .i64 x] 3)).alloc (.cells #[.int .i64 y] 3)=W at *
 have hF:=HF.out W b3
 clear HF f2 f3
 go_wp2_with (go_at_call 51;refine hF.mono ?_;rintro e w1 ⟨rfl,hw⟩;subst w1)
 go_ret
 exact ⟨rfl,b3.alloc b3.size _⟩
theorem KX.dup_no (h:KX w m H S U q A) (ho:S.O p=none) (hp:(Lit.int .i64 p).wf=true) (x:Int) :
 Calls Tryz.prog 108 #[wp H.kb,.int .i64 p,.int .i64 x] w fun y w'=>y=.returned (.tuple #[.int .i64 0,uer 7])∧Below w.heap.size w w':=by
 have hF:=fun W (hb:Below w.heap.size w W)=>(h.below hb).find_no ho hp
 have HF:Aside _:=hF
 clear h ho hF
 go_enter Tryz.func108,Tryz.ntmps108
 go_upto_region 1 with fail
 obtain ⟨b3,s3,c1,c2,c3⟩:=box3 w (wp H.kb) (.int .i64 x) (.int .i64 0) 25 3 3
 have f3:=(box1 ((w.alloc (.cells #[wp H.kb] 25)).alloc (.cells #[.int .i64 x] 3)) (.int .i64 0) 3).2.2.2
 rw [(box2 w (wp H.kb) (.int .i64 x) 25 3).2.1] at f3
 have f2:(((w.alloc (.cells #[wp H.kb] 25)).alloc (.cells #[.int .i64 x] 3)).alloc (.cells #[.int .i64 0] 3)).frozen? ⟨w.heap.size+1,0,none⟩=false:=by
  have:=(box1 (w.alloc (.cells #[wp H.kb] 25)) (.int .i64 x) 3).2.2.2
  rw [(box1 w (wp H.kb) 25).2.1] at this
  exact frozenUp ((Below.refl _ _).alloc (Nat.le_refl _) _) (by rw [(box2 w (wp H.kb) (.int .i64 x) 25 3).2.1];omega) this
 generalize ((w.alloc (.cells #[wp H.kb] 25)).alloc (.cells #[.int .i64 x] 3)).alloc (.cells #[.int .i64 0] 3)=W at *
 have hF:=HF.out W b3
 clear HF
 go_upto_region 3 with (go_at_call 51;refine hF.mono ?_;rintro e w1 ⟨rfl,hw⟩;subst w1)
 obtain ⟨b4,s4,c4,_⟩:=box1 W (.pointer none) 99
 have d2:=cellsUp b4 c2
 have d3:=cellsUp b4 c3
 have g2:=frozenUp b4 (World.block_lt_of_cell? W _ c2) f2
 have g3:=frozenUp b4 (World.block_lt_of_cell? W _ c3) f3
 generalize W.alloc (.cells #[.pointer none] 99)=V at *
 have bV:Below w.heap.size w V:=b3.trans (b4.mono b3.size)
 have y2:=World.cell?_setCell_same V ⟨w.heap.size+1,0,none⟩ (.int .i64 0) d2
 have y3:=World.cell?_setCell_same V ⟨w.heap.size+1+1,0,none⟩ (.int .i64 0) d3
 have y23:=World.cell?_setCell_same (V.setCell ⟨w.heap.size+1,0,none⟩ (.int .i64 0)) ⟨w.heap.size+1+1,0,none⟩ (.int .i64 0) (set_other d3 (by omega) _)
 have Y2:Aside _:=y2
 have Y3:Aside _:=y3
 have Y23:Aside _:=y23
 clear y2 y3 y23
 clear f2 f3 c1 c2 c3 c4 hF b4 s4 s3
 go_wp2_with fail
 refine bodyPost_ret (v:=.tuple #[.int .i64 0,uer 7]) (by simp [results,Tryz.results108,go_sem,Y3.out]) rfl ⟨rfl,?_⟩
 exact ⟨bV.os,bV.tape,bV.output,by simpa [World.setCell] using bV.size,fun i hi=>by rw [Below.heap_setCell _ _ _ _ (fun e=>by simp only at e;omega)];exact bV.block i hi⟩
theorem KX.pipe_no (h:KX w m H S U q A) (ho:S.O p=none) (hp:(Lit.int .i64 p).wf=true) :
 Calls Tryz.prog 13 #[wp H.kb,.int .i64 p] w fun y w'=>y=.returned (.tuple #[.int .i64 0,.int .i64 0,uer 7])∧Below w.heap.size w w':=by
 have hF:=fun W (hb:Below w.heap.size w W)=>(h.below hb).find_no ho hp
 have HF:Aside _:=hF
 clear h ho hF
 go_enter Tryz.func13,Tryz.ntmps13
 go_upto_region 1 with fail
 obtain ⟨b3,s3,c1,c2,c3⟩:=box3 w (wp H.kb) (.int .i64 0) (.int .i64 0) 25 3 3
 have f3:=(box1 ((w.alloc (.cells #[wp H.kb] 25)).alloc (.cells #[.int .i64 0] 3)) (.int .i64 0) 3).2.2.2
 rw [(box2 w (wp H.kb) (.int .i64 0) 25 3).2.1] at f3
 have f2:(((w.alloc (.cells #[wp H.kb] 25)).alloc (.cells #[.int .i64 0] 3)).alloc (.cells #[.int .i64 0] 3)).frozen? ⟨w.heap.size+1,0,none⟩=false:=by
  have:=(box1 (w.alloc (.cells #[wp H.kb] 25)) (.int .i64 0) 3).2.2.2
  rw [(box1 w (wp H.kb) 25).2.1] at this
  exact frozenUp ((Below.refl _ _).alloc (Nat.le_refl _) _) (by rw [(box2 w (wp H.kb) (.int .i64 0) 25 3).2.1];omega) this
 generalize ((w.alloc (.cells #[wp H.kb] 25)).alloc (.cells #[.int .i64 0] 3)).alloc (.cells #[.int .i64 0] 3)=W at *
 have hF:=HF.out W b3
 clear HF
 go_upto_region 3 with (go_at_call 51;refine hF.mono ?_;rintro e w1 ⟨rfl,hw⟩;subst w1)
 obtain ⟨b4,s4,c4,_⟩:=box1 W (.pointer none) 99
 have d2:=cellsUp b4 c2
 have d3:=cellsUp b4 c3
 have g2:=frozenUp b4 (World.block_lt_of_cell? W _ c2) f2
 have g3:=frozenUp b4 (World.block_lt_of_cell? W _ c3) f3
 generalize W.alloc (.cells #[.pointer none] 99)=V at *
 have bV:Below w.heap.size w V:=b3.trans (b4.mono b3.size)
 have y2:=World.cell?_setCell_same V ⟨w.heap.size+1,0,none⟩ (.int .i64 0) d2
 have y3:=World.cell?_setCell_same V ⟨w.heap.size+1+1,0,none⟩ (.int .i64 0) d3
 have y23:=World.cell?_setCell_same (V.setCell ⟨w.heap.size+1,0,none⟩ (.int .i64 0)) ⟨w.heap.size+1+1,0,none⟩ (.int .i64 0) (set_other d3 (by omega) _)
 have Y2:Aside _:=y2
 have Y3:Aside _:=y3
 have Y23:Aside _:=y23
 clear y2 y3 y23
 clear f2 f3 c1 c2 c3 c4 hF b4 s4 s3
 go_wp2_with fail
 refine bodyPost_ret (v:=.tuple #[.int .i64 0,.int .i64 0,uer 7]) (by simp [results,Tryz.results13,go_sem,Y2.out,Y23.out]) rfl ⟨rfl,?_⟩
 exact ⟨bV.os,bV.tape,bV.output,by simpa [World.setCell] using bV.size,fun i hi=>by rw [Below.heap_setCell _ _ _ _ (fun e=>by simp only at e;omega),Below.heap_setCell _ _ _ _ (fun e=>by simp only at e;omega)];exact bV.block i hi⟩
end
end Go.Proofs.YtcfhanoekniaaaaGreatDoor
namespace Go.Proofs.YtcfhanoekniaaaaGreatDoor
open Go.RowKit Go.Maps
section
variable {w:World}{m:Int}{H:KH}{S:KS}{U:Nat→Nat→Int}{q:Nat}{A:Nat→Prop}{p:Int}
theorem KX.file_no (h:KX w m H S U q A) (ho:S.O p=none) (hp:(Lit.int .i64 p).wf=true) (path:List UInt8) (pr:Int) (mk:Bool) :
 Calls Tryz.prog 107 #[wp H.kb,.int .i64 p,tx path,.int .i64 pr,.bool mk] w fun y w'=>y=.returned (.tuple #[.int .i64 0,uer 7])∧Below w.heap.size w w':=by
 have hF:=fun W (hb:Below w.heap.size w W)=>(h.below hb).find_no ho hp
 have HF:Aside _:=hF
 clear h ho hF
 go_enter Tryz.func107,Tryz.ntmps107
 go_upto_region 1 with fail
 obtain ⟨b3,s3,c1,c2,c3⟩:=box3 w (wp H.kb) (tx path) (.int .i64 pr) 25 9 3
 generalize ((w.alloc (.cells #[wp H.kb] 25)).alloc (.cells #[tx path] 9)).alloc (.cells #[.int .i64 pr] 3)=W3 at *
 obtain ⟨b5,s5,c4,c5⟩:=box2 W3 (.bool mk) (.int .i64 0) 4 3
 have f5:=(box1 (W3.alloc (.cells #[.bool mk] 4)) (.int .i64 0) 3).2.2.2
 rw [(box1 W3 (.bool mk) 4).2.1] at f5
 rw [s3] at s5 c4 c5 f5
 have c1':=cellsUp b5 c1
 generalize (W3.alloc (.cells #[.bool mk] 4)).alloc (.cells #[.int .i64 0] 3)=W at *
 have bW:Below w.heap.size w W:=b3.trans (b5.mono b3.size)
 have hF:=HF.out W bW
 clear HF c1 c2 c3 c4
 go_upto_region 3 with (go_at_call 51;refine hF.mono ?_;rintro e w1 ⟨rfl,hw⟩;subst w1)
 obtain ⟨b6,s6,c6,_⟩:=box1 W (.pointer none) 99
 have d5:=cellsUp b6 c5
 have f6:=frozenUp b6 (World.block_lt_of_cell? W _ c5) f5
 generalize W.alloc (.cells #[.pointer none] 99)=V at *
 have bV:Below w.heap.size w V:=bW.trans (b6.mono bW.size)
 have y5:=World.cell?_setCell_same V ⟨w.heap.size+1+1+1+1,0,none⟩ (.int .i64 0) d5
 have Y5:Aside _:=y5
 clear y5 f5 c1' c5 c6 hF b6 s6 s5 s3 b3 b5 bW
 go_wp2_with fail
 refine bodyPost_ret (v:=.tuple #[.int .i64 0,uer 7]) (by simp [results,Tryz.results107,go_sem,Y5.out]) rfl ⟨rfl,?_⟩
 exact ⟨bV.os,bV.tape,bV.output,by simpa [World.setCell] using bV.size,fun i hi=>by rw [Below.heap_setCell _ _ _ _ (fun e=>by simp only at e;omega)];exact bV.block i hi⟩
end
end Go.Proofs.YtcfhanoekniaaaaGreatDoor
namespace Go.Proofs.YtcfhanoekniaaaaGreatDoor
open Go.RowKit Go.Maps
inductive CallK (S:KS) (p a b c:Int) (s t:List UInt8):Int→Int→KS→Prop
 |nobody {W:Int}(ho:S.O p=none) (hW:0≤W∧W≤27):CallK S p a b c s t W 7 S
 |other {W:Int}(hW:¬(0≤W∧W≤27)):CallK S p a b c s t W 0 S
 |full {W:Int}{o:Ow}(hW:W=0∨W=1) (ho:S.O p=some o) (hc:24≤(pidsJ S.P).length):CallK S p a b c s t W 12 S
 |fork {W:Int}{o:Ow}(hW:W=0∨W=1) (ho:S.O p=some o) (hc:(pidsJ S.P).length<24):CallK S p a b c s t W 0 (forkKS S p o)
 |exit {o:Ow}(ho:S.O p=some o):CallK S p a b c s t 2 (exitKE p) (exitKS S p o a)
 |exec {o:Ow}(ho:S.O p=some o):CallK S p a b c s t 3 0 (execKS S o)
 |wait {o:Ow}(ho:S.O p=some o):CallK S p a b c s t 4 (waitO S.P p).2.2.1 (S.procs (waitO S.P p).2.2.2)
 |map {W:Int}{o:Ow}(hW:W=5∨W=6) (ho:S.O p=some o):CallK S p a b c s t W (mapKE S o a b c) (mapKS S o a b c)
 |unmap {o:Ow}(ho:S.O p=some o):CallK S p a b c s t 7 (unE (msJ S o.j) a b) (unKS S o a b)
 |store {W:Int}{o:Ow}{went:List Int}{er:Int}{S':KS}(hW:W=8∨W=9∨W=10) (ho:S.O p=some o) (r:StoreK p a b c S went er S'):CallK S p a b c s t W er S'
 |file {W:Int}{o:Ow}{n k:Nat}{pr x e:Int}{S':KS}(hW:W=11∨W=12) (ho:S.O p=some o) (hn:IsN S.D.E n) (hk:IsNum S.D.T k) (r:FileR S o n k s pr true x e S'):CallK S p a b c s t W e S'
 |pipe {o:Ow}{n:Nat}{x y e:Int}{S':KS}(ho:S.O p=some o) (hn:IsN S.D.E n) (r:PipeR S o n x y e S'):CallK S p a b c s t 13 e S'
 |dup {o:Ow}(ho:S.O p=some o):CallK S p a b c s t 14 (dupKE S o a) (dupKS S o a)
 |dup2 {o:Ow}(ho:S.O p=some o):CallK S p a b c s t 15 (dup2KE S o a b) (dup2KS S o a b)
 |close {o:Ow}(ho:S.O p=some o):CallK S p a b c s t 16 (if hasN (tsJ S o.j) a=true then 0 else 7) (closeKS S o a)
 |write {o:Ow}(ho:S.O p=some o):CallK S p a b c s t 17 (wrO S o a s).2.1 (writeKS S p o a s)
 |read {o:Ow}(ho:S.O p=some o):CallK S p a b c s t 18 (readO S.D (tsJ S o.j) a b).2.1 (S.files (readO S.D (tsJ S o.j) a b).2.2 o.j (tsJ S o.j))
 |limit {o:Ow}(ho:S.O p=some o):CallK S p a b c s t 19 (limE a b) (limKS S p o a b)
 |kill {o:Ow}(ho:S.O p=some o):CallK S p a b c s t 20 (killE S.P a b) (S.procs (if killE S.P a b=0 then killP S.P a b else S.P))
 |signal {o:Ow}(ho:S.O p=some o) (h1:p≠1) (hs:takeS S.P p≠0):CallK S p a b c s t 21 0 (endKS (S.procs (takeP S.P p)) p o (100+takeS S.P p))
 |quiet {o:Ow}(ho:S.O p=some o) (hs:takeS S.P p=0):CallK S p a b c s t 21 0 S
 |first {o:Ow}(ho:S.O p=some o) (h1:p=1):CallK S p a b c s t 21 0 (S.procs (quietP S.P 1))
 |mkdir {o:Ow}{k:Nat}{e:Int}{T':Wd}(ho:S.O p=some o) (hk:IsNum S.D.T k) (r:MkdR S.D.T k s e T'):CallK S p a b c s t 22 e (S.tree T')
 |unlink {o:Ow}(ho:S.O p=some o):CallK S p a b c s t 23 (unlinkE S.D.T s) (S.tree (unlinkN S.D.T s))
 |rename {o:Ow}(ho:S.O p=some o):CallK S p a b c s t 24 (renameE S.D.T s t) (S.tree (renameN S.D.T s t))
 |protect {o:Ow}(ho:S.O p=some o):CallK S p a b c s t 25 (proE (msJ S o.j) a b c) (S.space o.j (proP (msJ S o.j) a b c) S.W)
 |mark {o:Ow}(yes:Bool) (ho:S.O p=some o):CallK S p a b c s t 26 (if hasN (tsJ S o.j) a=true then 0 else 7) (S.files S.D o.j (markN (tsJ S o.j) a yes))
 |adjust {o:Ow}(ho:S.O p=some o):CallK S p a b c s t 27 (adjE a) (adjKS S p o a)
def Nxt (w:World) (m:Int) (H:KH) (q:Nat) (A:Nat→Prop) (S':KS) (w':World):Prop:=∃H' A',(H'.kb=H.kb∧H'.ok=H.ok)∧KN w' m H' S' (q+1) A'∧Stp w w' A A'
def CallO (w:World) (m:Int) (H:KH) (S:KS) (q:Nat) (A:Nat→Prop) (p a b c:Int) (s t:List UInt8) (W:Int) (y:Ending) (w':World):Prop:=
 ∃e S',y=.returned (uev e)∧CallK S p a b c s t W e S'∧Nxt w m H q A S' w'
section
variable {w w' V:World}{m:Int}{H:KH}{S S':KS}{U:Nat→Nat→Int}{q q':Nat}{A A':Nat→Prop}{p a b c:Int}{s t:List UInt8}{o:Ow}
theorem Nxt.mk (h:KN w' m H S' q' A') (hq:q'≤q+1) (st:Stp w w' A A'):Nxt w m H q A S' w':=⟨H,A',⟨rfl,rfl⟩,h.more hq,st⟩
theorem Nxt.same (h:KN w m H S q A) (hb:Below w.heap.size w w'):Nxt w m H q A S w':=.mk (h.below hb) (by omega) (.below hb)
theorem Nxt.before (h:Nxt V m H q A S' w') (hb:Below w.heap.size w V):Nxt w m H q A S' w':=by
 obtain ⟨H',A',e,k,st⟩:=h
 exact ⟨H',A',e,k,Stp.after hb st⟩
theorem Nxt.asw (h:Nxt V m H q A S' w') (e:V.heap=w.heap) (e1:V.os=w.os) (e2:V.tape=w.tape) (e3:V.output=w.output):Nxt w m H q A S' w':=by
 obtain ⟨H',A',k,n,st⟩:=h
 exact ⟨H',A',k,n,st.base e e1 e2 e3⟩
theorem Nxt.cell (h:Nxt w m H q A S' w') {x i:Nat}{v:Value}(hx:¬A x) (hc:w.cell? ⟨x,i,none⟩=some v):w'.cell? ⟨x,i,none⟩=some v:=by
 obtain ⟨H',A',k,n,st⟩:=h
 exact (st.cellKept hc hx).1
theorem any_fork (h:KN w m H S q A) (hq:q≤90) (hp:(Lit.int .i64 p).wf=true) {W:Int}(hW:W=0∨W=1) :
 Calls Tryz.prog 14 #[wp H.kb,.int .i64 p] w fun y w'=>∃n e S',y=.returned (.tuple #[.int .i64 n,uev e])∧CallK S p a b c s t W e S'∧Nxt w m H q A S' w':=by
 cases ho:S.O p with
 |none=>
  refine (h.1.fork_no ho hp).mono ?_
  rintro y w' ⟨rfl,rfl⟩
  exact ⟨0,7,S,rfl,.nobody ho (by omega),.same h (Below.refl _ _)⟩
 |some o=>
  rcases Nat.lt_or_ge (pidsJ S.P).length 24 with hc|hc
  ·refine (h.fork_go ho hq hc).mono ?_
   rintro y w' ⟨rfl,H',A',e,k,st⟩
   exact ⟨_,0,_,rfl,.fork hW ho hc,H',A',e,k,st⟩
  ·refine (h.fork_full ho hc).mono ?_
   rintro y w' ⟨rfl,A',k,st⟩
   exact ⟨_,12,_,rfl,.full hW ho hc,.mk k (by omega) st⟩
theorem any_exit (h:KN w m H S q A) (hq:q≤90) (hp:(Lit.int .i64 p).wf=true) :
 Calls Tryz.prog 20 #[wp H.kb,.int .i64 p,.int .i64 a] w (CallO w m H S q A p a b c s t 2):=by
 cases ho:S.O p with
 |none=>
  refine (h.1.exit_no ho hp a).mono ?_
  rintro y w' ⟨rfl,rfl⟩
  exact ⟨7,S,rfl,.nobody ho (by omega),.same h (Below.refl _ _)⟩
 |some o=>
  refine (h.exit_yes ho (by omega) a).mono ?_
  rintro y w' ⟨rfl,A',k,st⟩
  exact ⟨_,_,rfl,.exit ho,.mk k (by omega) st⟩
theorem any_exec (h:KN w m H S q A) (hq:q≤90) (hp:(Lit.int .i64 p).wf=true) :
 Calls Tryz.prog 37 #[wp H.kb,.int .i64 p] w (CallO w m H S q A p a b c s t 3):=by
 cases ho:S.O p with
 |none=>
  refine (h.1.exec_no ho hp).mono ?_
  rintro y w' ⟨rfl,rfl⟩
  exact ⟨7,S,rfl,.nobody ho (by omega),.same h (Below.refl _ _)⟩
 |some o=>
  refine (h.exec_yes ho (by omega)).mono ?_
  rintro y w' ⟨rfl,A',k,st⟩
  exact ⟨0,_,rfl,.exec ho,.mk k (by omega) st⟩
theorem any_wait (h:KN w m H S q A) (hp:(Lit.int .i64 p).wf=true) :
 Calls Tryz.prog 36 #[wp H.kb,.int .i64 p] w fun y w'=>∃n k e S',y=.returned (.tuple #[.int .i64 n,.int .i64 k,uev e])∧CallK S p a b c s t 4 e S'∧Nxt w m H q A S' w':=by
 cases ho:S.O p with
 |none=>
  refine (h.1.wait_no ho hp).mono ?_
  rintro y w' ⟨rfl,rfl⟩
  exact ⟨0,0,7,S,rfl,.nobody ho (by omega),.same h (Below.refl _ _)⟩
 |some o=>
  refine (h.wait_yes ho).mono ?_
  rintro y w' ⟨rfl,A',k,st⟩
  exact ⟨_,_,_,_,rfl,.wait ho,.mk k (by omega) st⟩
theorem any_map (h:KN w m H S q A) (hp:(Lit.int .i64 p).wf=true) (hb:b≤9223372036854775807) {W:Int}(hW:W=5∨W=6) :
 Calls Tryz.prog 45 #[wp H.kb,.int .i64 p,.int .i64 a,.int .i64 b,.int .i64 c] w (CallO w m H S q A p a b c s t W):=by
 cases ho:S.O p with
 |none=>
  refine (h.1.map_no ho hp a b c).mono ?_
  rintro y w' ⟨rfl,hb'⟩
  exact ⟨7,S,rfl,.nobody ho (by omega),.same h hb'⟩
 |some o=>
  refine (h.map_yes ho a b c hb).mono ?_
  rintro y w' ⟨rfl,A',k,st⟩
  exact ⟨_,_,rfl,.map hW ho,.mk k (by omega) st⟩
theorem any_unmap (h:KN w m H S q A) (hp:(Lit.int .i64 p).wf=true) (hb:b≤9223372036854775807) :
 Calls Tryz.prog 95 #[wp H.kb,.int .i64 p,.int .i64 a,.int .i64 b] w (CallO w m H S q A p a b c s t 7):=by
 cases ho:S.O p with
 |none=>
  refine (h.1.unmap_no ho hp a b).mono ?_
  rintro y w' ⟨rfl,rfl⟩
  exact ⟨7,S,rfl,.nobody ho (by omega),.same h (Below.refl _ _)⟩
 |some o=>
  refine (h.unmap_yes ho a b hb).mono ?_
  rintro y w' ⟨rfl,A',k,st⟩
  exact ⟨_,_,rfl,.unmap ho,.mk k (by omega) st⟩
theorem any_protect (h:KN w m H S q A) (hp:(Lit.int .i64 p).wf=true) (hb:b≤9223372036854775807) :
 Calls Tryz.prog 96 #[wp H.kb,.int .i64 p,.int .i64 a,.int .i64 b,.int .i64 c] w (CallO w m H S q A p a b c s t 25):=by
 cases ho:S.O p with
 |none=>
  refine (h.1.protect_no ho hp a b c).mono ?_
  rintro y w' ⟨rfl,rfl⟩
  exact ⟨7,S,rfl,.nobody ho (by omega),.same h (Below.refl _ _)⟩
 |some o=>
  refine (h.protect_yes ho a b c hb).mono ?_
  rintro y w' ⟨rfl,A',k,st⟩
  exact ⟨_,_,rfl,.protect ho,.mk k (by omega) st⟩
theorem any_store (h:KN w m H S q A) (hq:q≤90) (hp:(Lit.int .i64 p).wf=true) (ha:(Lit.int .i64 a).wf=true) {W:Int}(hW:W=8∨W=9∨W=10) :
 Calls Tryz.prog 42 #[wp H.kb,.int .i64 p,.int .i64 a,.int .i64 b,.int .i64 c] w fun y w'=>∃v e S',y=.returned (.tuple #[v,uev e])∧CallK S p a b c s t W e S'∧Nxt w m H q A S' w':=by
 cases ho:S.O p with
 |none=>
  refine (h.1.store_no ho hp a b c).mono ?_
  rintro y w' ⟨rfl,rfl⟩
  exact ⟨_,7,S,rfl,.nobody ho (by omega),.same h (Below.refl _ _)⟩
 |some o=>
  refine (h.store_yes ho (by omega) a b c ha).mono ?_
  rintro y w' ⟨vw,er,rfl,went,S',A',r,_,k,st⟩
  exact ⟨_,_,_,rfl,.store hW ho r,.mk k (by omega) st⟩
theorem any_file (h:KN w m H S q A) (hq:q≤90) (hp:(Lit.int .i64 p).wf=true) (hs:s.length<100000) {W:Int}(hW:W=11∨W=12) (pr:Int) :
 Calls Tryz.prog 107 #[wp H.kb,.int .i64 p,tx s,.int .i64 pr,.bool true] w fun y w'=>∃n e S',y=.returned (.tuple #[.int .i64 n,uev e])∧CallK S p a b c s t W e S'∧Nxt w m H q A S' w':=by
 cases ho:S.O p with
 |none=>
  refine (h.1.file_no ho hp s pr true).mono ?_
  rintro y w' ⟨rfl,hb⟩
  exact ⟨_,7,S,rfl,.nobody ho (by omega),.same h hb⟩
 |some o=>
  obtain ⟨n,hn⟩:=h.1.numE
  obtain ⟨k,hk⟩:=h.1.numT
  refine (h.file_yes ho (by omega) hn hk s hs pr true).mono ?_
  rintro y w' ⟨x,e,S',rfl,r,A',k',st⟩
  exact ⟨_,_,_,rfl,.file hW ho hn hk r,.mk k' (by omega) st⟩
theorem any_pipe (h:KN w m H S q A) (hq:q≤90) (hp:(Lit.int .i64 p).wf=true) :
 Calls Tryz.prog 13 #[wp H.kb,.int .i64 p] w fun y w'=>∃n k e S',y=.returned (.tuple #[.int .i64 n,.int .i64 k,uev e])∧CallK S p a b c s t 13 e S'∧Nxt w m H q A S' w':=by
 cases ho:S.O p with
 |none=>
  refine (h.1.pipe_no ho hp).mono ?_
  rintro y w' ⟨rfl,hb⟩
  exact ⟨_,_,7,S,rfl,.nobody ho (by omega),.same h hb⟩
 |some o=>
  obtain ⟨n,hn⟩:=h.1.numE
  refine (h.pipe_yes ho (by omega) hn).mono ?_
  rintro y w' ⟨x,y9,e,S',rfl,r,A',k',st⟩
  exact ⟨_,_,_,_,rfl,.pipe ho hn r,.mk k' (by omega) st⟩
theorem any_dup (h:KN w m H S q A) (hp:(Lit.int .i64 p).wf=true) :
 Calls Tryz.prog 108 #[wp H.kb,.int .i64 p,.int .i64 a] w fun y w'=>∃n e S',y=.returned (.tuple #[.int .i64 n,uev e])∧CallK S p a b c s t 14 e S'∧Nxt w m H q A S' w':=by
 cases ho:S.O p with
 |none=>
  refine (h.1.dup_no ho hp a).mono ?_
  rintro y w' ⟨rfl,hb⟩
  exact ⟨_,7,S,rfl,.nobody ho (by omega),.same h hb⟩
 |some o=>
  refine (h.dup_yes ho a).mono ?_
  rintro y w' ⟨rfl,A',k,st⟩
  exact ⟨_,_,_,rfl,.dup ho,.mk k (by omega) st⟩
theorem any_dup2 (h:KN w m H S q A) (hq:q≤90) (hp:(Lit.int .i64 p).wf=true) :
 Calls Tryz.prog 109 #[wp H.kb,.int .i64 p,.int .i64 a,.int .i64 b] w (CallO w m H S q A p a b c s t 15):=by
 cases ho:S.O p with
 |none=>
  refine (h.1.dup2_no ho hp a b).mono ?_
  rintro y w' ⟨rfl,hb⟩
  exact ⟨7,S,rfl,.nobody ho (by omega),.same h hb⟩
 |some o=>
  refine (h.dup2_yes ho (by omega) a b).mono ?_
  rintro y w' ⟨rfl,A',k,st⟩
  exact ⟨_,_,rfl,.dup2 ho,.mk k (by omega) st⟩
theorem any_close (h:KN w m H S q A) (hq:q≤90) (hp:(Lit.int .i64 p).wf=true) :
 Calls Tryz.prog 15 #[wp H.kb,.int .i64 p,.int .i64 a] w (CallO w m H S q A p a b c s t 16):=by
 cases ho:S.O p with
 |none=>
  refine (h.1.close_no ho hp a).mono ?_
  rintro y w' ⟨rfl,rfl⟩
  exact ⟨7,S,rfl,.nobody ho (by omega),.same h (Below.refl _ _)⟩
 |some o=>
  refine (h.close_yes ho (by omega) a).mono ?_
  rintro y w' ⟨rfl,A',k,st⟩
  exact ⟨_,_,rfl,.close ho,.mk k (by omega) st⟩
theorem any_write (h:KN w m H S q A) (hp:(Lit.int .i64 p).wf=true) (hs:s.length<100000) :
 Calls Tryz.prog 16 #[wp H.kb,.int .i64 p,.int .i64 a,tx s] w fun y w'=>∃n e S',y=.returned (.tuple #[.int .i64 n,uev e])∧CallK S p a b c s t 17 e S'∧Nxt w m H q A S' w':=by
 cases ho:S.O p with
 |none=>
  refine (h.1.write_no ho hp a s).mono ?_
  rintro y w' ⟨rfl,rfl⟩
  exact ⟨_,7,S,rfl,.nobody ho (by omega),.same h (Below.refl _ _)⟩
 |some o=>
  refine (h.write_yes ho a s hs).mono ?_
  rintro y w' ⟨rfl,A',k,st⟩
  exact ⟨_,_,_,rfl,.write ho,.mk k (by omega) st⟩
theorem any_read (h:KN w m H S q A) (hp:(Lit.int .i64 p).wf=true) :
 Calls Tryz.prog 19 #[wp H.kb,.int .i64 p,.int .i64 a,.int .i64 b] w fun y w'=>∃z e S',y=.returned (.tuple #[tx z,uev e])∧CallK S p a b c s t 18 e S'∧Nxt w m H q A S' w':=by
 cases ho:S.O p with
 |none=>
  refine (h.1.read_no ho hp a b).mono ?_
  rintro y w' ⟨rfl,rfl⟩
  exact ⟨_,7,S,rfl,.nobody ho (by omega),.same h (Below.refl _ _)⟩
 |some o=>
  refine (h.read_yes ho a b).mono ?_
  rintro y w' ⟨rfl,A',k,st⟩
  exact ⟨_,_,_,rfl,.read ho,.mk k (by omega) st⟩
theorem any_limit (h:KN w m H S q A) (hp:(Lit.int .i64 p).wf=true) :
 Calls Tryz.prog 41 #[wp H.kb,.int .i64 p,.int .i64 a,.int .i64 b] w (CallO w m H S q A p a b c s t 19):=by
 cases ho:S.O p with
 |none=>
  refine (h.1.limit_no ho hp a b).mono ?_
  rintro y w' ⟨rfl,rfl⟩
  exact ⟨7,S,rfl,.nobody ho (by omega),.same h (Below.refl _ _)⟩
 |some o=>
  refine (h.limit_yes ho a b).mono ?_
  rintro y w' ⟨rfl,A',k,st⟩
  exact ⟨_,_,rfl,.limit ho,.mk k (by omega) st⟩
theorem any_kill (h:KN w m H S q A) (hp:(Lit.int .i64 p).wf=true) (ha:(Lit.int .i64 a).wf=true) :
 Calls Tryz.prog 92 #[wp H.kb,.int .i64 p,.int .i64 a,.int .i64 b] w (CallO w m H S q A p a b c s t 20):=by
 cases ho:S.O p with
 |none=>
  refine (h.1.kill_no ho hp a b).mono ?_
  rintro y w' ⟨rfl,rfl⟩
  exact ⟨7,S,rfl,.nobody ho (by omega),.same h (Below.refl _ _)⟩
 |some o=>
  refine (h.kill_yes ho a b ha).mono ?_
  rintro y w' ⟨rfl,A',k,st⟩
  exact ⟨_,_,rfl,.kill ho,.mk k (by omega) st⟩
theorem takeS_le (P:Ps) (n:Int):takeS P n≤8:=by
 unfold takeS
 split
 ·omega
 ·cases h:sigs.find? (wtJ P n) with
  |none=>simp
  |some x=>
   have:=List.mem_of_find?_eq_some h
   simp only [Option.getD_some]
   unfold sigs at this
   simp only [List.mem_cons,List.not_mem_nil,or_false] at this
   omega
theorem any_signal (h:KN w m H S q A) (hk:H.ok=true) (hq:q≤90) (hp:(Lit.int .i64 p).wf=true) :
 Calls Tryz.prog 26 #[wp H.kb,.int .i64 p] w fun y w'=>∃z e S',y=.returned (.tuple #[.bool z,uev e])∧CallK S p a b c s t 21 e S'∧Nxt w m H q A S' w':=by
 cases ho:S.O p with
 |none=>
  refine (h.1.signal_no ho hp).mono ?_
  rintro y w' ⟨rfl,rfl⟩
  exact ⟨_,7,S,rfl,.nobody ho (by omega),.same h (Below.refl _ _)⟩
 |some o=>
  by_cases h1:p=1
  ·subst h1
   refine (h.signal_one hk ho).mono ?_
   rintro y w' ⟨rfl,A',k,st⟩
   exact ⟨_,0,_,rfl,.first ho rfl,.mk k (by omega) st⟩
  ·by_cases hs:takeS S.P p=0
   ·refine (h.signal_none hk ho hs).mono ?_
    rintro y w' ⟨rfl,A',k,st⟩
    exact ⟨_,0,_,rfl,.quiet ho hs,.mk k (by omega) st⟩
   ·refine (h.signal_some hk ho (by omega) h1 hs (takeS_le _ _)).mono ?_
    rintro y w' ⟨rfl,A',k,st⟩
    exact ⟨_,0,_,rfl,.signal ho h1 hs,.mk k (by omega) st⟩
theorem any_mkdir (h:KN w m H S q A) (hq:q≤90) (hp:(Lit.int .i64 p).wf=true) (hs:s.length<100000) :
 Calls Tryz.prog 191 #[wp H.kb,.int .i64 p,tx s] w (CallO w m H S q A p a b c s t 22):=by
 cases ho:S.O p with
 |none=>
  refine (h.1.mkdir_no ho hp s).mono ?_
  rintro y w' ⟨rfl,rfl⟩
  exact ⟨7,S,rfl,.nobody ho (by omega),.same h (Below.refl _ _)⟩
 |some o=>
  obtain ⟨k,hk⟩:=h.1.numT
  refine (h.mkdir_yes ho (by omega) hk s hs).mono ?_
  rintro y w' ⟨e,T',rfl,r,A',k',st⟩
  exact ⟨_,_,rfl,.mkdir ho hk r,.mk k' (by omega) st⟩
theorem any_unlink (h:KN w m H S q A) (hq:q≤90) (hp:(Lit.int .i64 p).wf=true) (hs:s.length<100000) :
 Calls Tryz.prog 193 #[wp H.kb,.int .i64 p,tx s] w (CallO w m H S q A p a b c s t 23):=by
 cases ho:S.O p with
 |none=>
  refine (h.1.unlink_no ho hp s).mono ?_
  rintro y w' ⟨rfl,rfl⟩
  exact ⟨7,S,rfl,.nobody ho (by omega),.same h (Below.refl _ _)⟩
 |some o=>
  refine (h.unlink_yes ho (by omega) s hs).mono ?_
  rintro y w' ⟨rfl,A',k,st⟩
  exact ⟨_,_,rfl,.unlink ho,.mk k (by omega) st⟩
theorem any_rename (h:KN w m H S q A) (hq:q≤90) (hp:(Lit.int .i64 p).wf=true) (hs:s.length<100000) (ht:t.length<100000) :
 Calls Tryz.prog 194 #[wp H.kb,.int .i64 p,tx s,tx t] w (CallO w m H S q A p a b c s t 24):=by
 cases ho:S.O p with
 |none=>
  refine (h.1.rename_no ho hp s t).mono ?_
  rintro y w' ⟨rfl,rfl⟩
  exact ⟨7,S,rfl,.nobody ho (by omega),.same h (Below.refl _ _)⟩
 |some o=>
  refine (h.rename_yes ho (by omega) s t hs ht).mono ?_
  rintro y w' ⟨rfl,A',k,st⟩
  exact ⟨_,_,rfl,.rename ho,.mk k (by omega) st⟩
theorem any_mark (h:KN w m H S q A) (hp:(Lit.int .i64 p).wf=true) (yes:Bool) :
 Calls Tryz.prog 189 #[wp H.kb,.int .i64 p,.int .i64 a,.bool yes] w (CallO w m H S q A p a b c s t 26):=by
 cases ho:S.O p with
 |none=>
  refine (h.1.mark_no ho hp a _).mono ?_
  rintro y w' ⟨rfl,rfl⟩
  exact ⟨7,S,rfl,.nobody ho (by omega),.same h (Below.refl _ _)⟩
 |some o=>
  refine (h.mark_yes ho a _).mono ?_
  rintro y w' ⟨rfl,A',k,st⟩
  exact ⟨_,_,rfl,.mark _ ho,.mk k (by omega) st⟩
theorem any_adjust (h:KN w m H S q A) (hp:(Lit.int .i64 p).wf=true) :
 Calls Tryz.prog 94 #[wp H.kb,.int .i64 p,.int .i64 a] w (CallO w m H S q A p a b c s t 27):=by
 cases ho:S.O p with
 |none=>
  refine (h.1.adjust_no ho hp a).mono ?_
  rintro y w' ⟨rfl,rfl⟩
  exact ⟨7,S,rfl,.nobody ho (by omega),.same h (Below.refl _ _)⟩
 |some o=>
  refine (h.adjust_yes ho a).mono ?_
  rintro y w' ⟨rfl,A',k,st⟩
  exact ⟨_,_,rfl,.adjust ho,.mk k (by omega) st⟩
end
end Go.Proofs.YtcfhanoekniaaaaGreatDoor
namespace Go.Proofs.YtcfhanoekniaaaaGreatDoor
open Go.RowKit Go.Shelf Go.Lib Go.Sort Go.Maps
theorem used_more {t t':Int→Nat}{n f:Nat}(hf:f<n) (h0:t (f:Int)=0) (h1:t' (f:Int)≠0) (ho:∀x:Int,0≤x→x≠(f:Int)→(t x=0↔t' x=0)):used t' n=used t n+1:=by
 rw [used_eq,used_eq]
 refine sumTo_set (f:=f) (d:=1) (by simp [h0,h1]) (fun i hi=>?_) n 0 (by omega) (by omega)
 have:=ho i (by omega) (by omega)
 by_cases e:t (i:Int)=0
 ·rw [if_pos e,if_pos (this.1 e)]
 ·rw [if_neg e,if_neg (fun e'=>e (this.2 e'))]
def P1:PM:=mapTo (fun _=>none) 0 2 3
theorem P1_0:P1 0=some (3,-1):=by unfold P1 mapTo;rfl
theorem P1_frm (x:Int):frm P1 x=-1:=by
 have:P1 x=some (3,-1)∨P1 x=none:=by
  unfold P1 mapTo;by_cases h:0≤x∧x<0+((2:Nat):Int)
  ·exact .inl (if_pos h)
  ·exact .inr (if_neg h)
 rcases this with h|h
 ·rw [frm_some h]
 ·exact frm_none h
theorem P1_sh {f:Int}(hf:0≤f):sh P1 f=0:=sh_zero hf (fun a=>by rw [P1_frm];omega)
theorem P2_sh {f z:Int}(_hf:0≤f) (hz:0≤z):sh (putP P1 0 (3,f)) z=if f=z then 1 else 0:=by
 have h:=sh_put (P:=P1) (a:=0) (by omega) (by omega) (3,f) z
 rw [P1_sh hz,P1_frm,if_neg (by omega)] at h
 simpa using h
theorem P1_pg:(pg P1 0).1=3:=by unfold pg;rw [P1_0];rfl
theorem P2_0 (f:Int):putP P1 0 (3,f) 0=some (3,f):=by unfold putP;rw [if_pos rfl]
theorem useE_3 {P:PM}{f:Int}(h:P 0=some (3,f)):useE P 0 1 2=0∧useE P 0 1 1=0:=by unfold useE;rw [h];exact ⟨by simp,by simp⟩
end Go.Proofs.YtcfhanoekniaaaaGreatDoor
namespace Go.Proofs.YtcfhanoekniaaaaGreatDoor
open Go.RowKit Go.Maps
section
variable {w w1 w2:World}{m:Int}{A A':Nat→Prop}
theorem Stp.toBelow (hb:Below w.heap.size w w1) (hA:∀i,A i→w.heap.size≤i) (st:Stp w1 w2 A A'):Below w.heap.size w w2:=
 ⟨st.wt.os.trans hb.os,st.wt.tape.trans hb.tape,st.wt.output.trans hb.output,Nat.le_trans hb.size st.wt.size,fun i hi=>by
  rw [st.wt.block i (Nat.lt_of_lt_of_le hi hb.size) (fun z=>by have:=hA i z;omega)]
  exact hb.block i hi⟩
theorem least_first:leastJ firstJ=2:=leastJ_eq ⟨by omega,by unfold firstJ;rw [if_neg (by omega)],fun j h1 h2=>by
 have:j=1:=by omega
 subst this;rfl⟩ (by omega)
theorem pids_first:(pidsJ firstJ).length=1:=by decide
abbrev o1:Ow:=⟨0,firstM,0⟩
abbrev o2:Ow:=⟨1,firstM,0⟩
noncomputable def keptS:KS:=forkKS (firstS 4) 1 o1
theorem keptO:keptS.O 2=some o2:=by
 show putO (firstS 4).O (leastJ firstJ) ⟨1,firstM,0⟩ 2=_
 rw [least_first];rfl
theorem kept_map:mapKE keptS o2 0 2 3=0:=by
 have e:msJ keptS 1=noP:=rfl
 have e1:mapE noP 0 2 3=0:=by decide +kernel
 unfold mapKE
 rw [e,if_neg (not_not_intro e1),if_pos]
 rw [show lenP noP=0 from lenP_none]
 decide
noncomputable def keptS2:KS:=mapKS keptS o2 0 2 3
theorem keptS2_eq:keptS2=keptS.space 1 P1 keptS.W:=by
 unfold keptS2 mapKS
 rw [if_pos kept_map]
 have e:msJ keptS 1=noP:=rfl
 have e1:mapE noP 0 2 3=0:=by decide +kernel
 have e1':mapP noP 0 2 3=P1:=by unfold mapP;rw [if_pos e1];rfl
 rw [e,e1']
theorem keptMs2:keptS2.Ms=[noP,P1]:=by rw [keptS2_eq];rfl
theorem tot2 {x:Int}(hx:0≤x) (P:PM):totM [noP,P] x=sh P x:=by
 unfold totM
 simp only [List.map_cons,List.map_nil,List.sum_cons,List.sum_nil]
 rw [show sh noP x=0 from sh_empty hx];omega
theorem kept_store {went:List Int}{er:Int}{S':KS}(h:StoreK 2 0 1 5 keptS2 went er S'):went=[]∧er=0∧∃f:Nat,f<4∧∃D2:Nat→Nat→Int,D2 f 1=5∧S'=keptS2.space 1 (putP P1 0 (3,(f:Int))) D2:=by
 have hO:keptS2.O 2=some o2:=by rw [keptS2_eq];exact keptO
 have hm:msJ keptS2 1=P1:=by unfold msJ;rw [keptMs2];rfl
 have ht:∀x,0≤x→totM keptS2.Ms x=0:=fun x hx=>by rw [keptMs2,tot2 hx,P1_sh hx]
 have hn:keptS2.n=4:=by rw [keptS2_eq];rfl
 have hz:∀x,0≤x→sh P1 x+othM keptS2 1 x=0:=fun x hx=>by
  unfold othM;rw [ht x hx,P1_sh hx,Nat.zero_sub]
 have hs:∀ {er P' D'},StR keptS2.n (msJ keptS2 1) (othM keptS2 1) keptS2.W 0 1 5 er P' D'→∃f:Nat,f<4∧er=0∧P'=putP P1 0 (3,(f:Int))∧D' f 1=5:=fun {er P' D'} hr=>by
  rw [hm,hn] at hr
  rcases hr with ⟨h,_⟩|⟨_,h,_⟩|⟨_,_,h,_⟩|⟨_,_,f,hf1,hf2,h4,h5,h6⟩
  ·exact absurd (useE_3 P1_0).1 h
  ·exact absurd (P1_frm 0) h
  ·exfalso
   rw [used_congr (t':=fun _=>0) hz,used_zero] at h;omega
  ·exact ⟨f,hf1,h4,by rw [h5,P1_pg],by rw [h6];simp [upd]⟩
 cases h with
 |done ho hr h12=>
  rw [hO] at ho
  cases ho
  obtain ⟨f,h1,rfl,rfl,h4⟩:=hs hr
  exact ⟨rfl,rfl,f,h1,_,h4,rfl⟩
 |nobody ho hr hv=>
  rw [hO] at ho
  cases ho
  obtain ⟨f,h1,h2,_⟩:=hs hr
  omega
 |self ho hr hv he=>
  rw [hO] at ho
  cases ho
  obtain ⟨f,h1,h2,_⟩:=hs hr
  omega
 |goes ho hr=>
  rw [hO] at ho
  cases ho
  obtain ⟨f,h1,h2,_⟩:=hs hr
  omega
theorem left_one {f:Nat}(hf:f<4) {S:KS}(hn:S.n=4) (hM:S.Ms=[noP,putP P1 0 (3,(f:Int))]):S.n-used (totM S.Ms) S.n=3:=by
 rw [hn]
 have h0:used (fun _=>0) 4=0:=used_zero 4
 have hf0:(0:Int)≤(f:Int):=by omega
 have ht:∀x,0≤x→totM S.Ms x=if (f:Int)=x then 1 else 0:=fun x hx=>by rw [hM,tot2 hx,P2_sh hf0 hx]
 rw [used_more (t:=fun _=>0) hf rfl (by rw [ht _ hf0,if_pos rfl];decide) (fun x hx hne=>by rw [ht x hx,if_neg (fun h=>hne h.symm)]),h0]
theorem left_all {S:KS}(hn:S.n=4) (hM:S.Ms=[noP,noP]):S.n-used (totM S.Ms) S.n=4:=by
 rw [hn,used_congr (t':=fun _=>0) (fun x hx=>by rw [hM,tot2 hx];exact sh_empty hx),used_zero]
theorem kept_chain {ok:Bool}(w:World) (hm:w.cell? ⟨4,0,none⟩=some (.int .i64 m)) (he:w.cell? ⟨0,0,none⟩=some errT) (ht:TabH ok w) :
 Calls Tryz.prog 12 #[.int .i64 4] w fun y w1=>∃kb,y=.returned (.tuple #[wp kb,.nilIface])∧Calls Tryz.prog 14 #[wp kb,.int .i64 1] w1 fun y w2=>y=.returned (.tuple #[.int .i64 2,.nilIface])∧Calls Tryz.prog 45 #[wp kb,.int .i64 2,.int .i64 0,.int .i64 2,.int .i64 3] w2 fun y w3=>y=.returned .nilIface∧Calls Tryz.prog 42 #[wp kb,.int .i64 2,.int .i64 0,.int .i64 1,.int .i64 5] w3 fun y w4=>∃ad cap,y=.returned (.tuple #[.slice ad 0 cap,.nilIface])∧Calls Tryz.prog 44 #[wp kb,.int .i64 2,.int .i64 0,.int .i64 1] w4 fun y w5=>y=.returned (.tuple #[.int .i64 5,.nilIface])∧Calls Tryz.prog 39 #[wp kb] w5 fun y w6=>y=.returned (.int .i64 3)∧Calls Tryz.prog 20 #[wp kb,.int .i64 2,.int .i64 0] w6 fun y w7=>y=.returned .nilIface∧Calls Tryz.prog 39 #[wp kb] w7 fun y w8=>y=.returned (.int .i64 4)∧Below w.heap.size w w8:=by
 refine (kernelNew_ok w 4 (by omega) (by omega) hm he ht).mono ?_
 rintro y w1 ⟨H,A,rfl,k1,hA,b1,_⟩
 refine ⟨H.kb,rfl,(k1.fork_go (p:=1) (o:=o1) rfl (by omega) (by show (pidsJ firstJ).length<24;rw [pids_first];omega)).mono ?_⟩
 rintro y w2 ⟨rfl,H',A2,⟨hkb,_⟩,k2,st2⟩
 have e2:leastJ (firstS 4).P=2:=least_first
 rw [e2,←hkb]
 have k2:KN w2 m H' keptS 1 A2:=k2
 refine ⟨rfl,(k2.map_yes keptO 0 2 3 (by omega)).mono ?_⟩
 rintro y w3 ⟨rfl,A3,k3,st3⟩
 rw [kept_map,uev_zero]
 have k3:KN w3 m H' keptS2 1 A3:=k3
 have hO:keptS2.O 2=some o2:=by rw [keptS2_eq];exact keptO
 refine ⟨rfl,(k3.store_yes hO (by omega) 0 1 5 (by kernel_rfl)).mono ?_⟩
 rintro y w4 ⟨vw,er,rfl,went,S',A4,hS,hw,k4,st4⟩
 obtain ⟨rfl,rfl,f,hf,D2,hD,rfl⟩:=kept_store hS
 obtain ⟨ad,cap,rfl⟩:∃ad cap,vw=.slice ad 0 cap:=by
  rcases hw.row.2 with ⟨e,_⟩|⟨g,cap,cur,e,_⟩
  ·exact ⟨none,0,e⟩
  ·exact ⟨_,cap,e⟩
 have hms:(keptS2.space 1 (putP P1 0 (3,(f:Int))) D2).Ms=[noP,putP P1 0 (3,(f:Int))]:=by
  show keptS2.Ms.set 1 _=_
  rw [keptMs2];rfl
 have hn4:(keptS2.space 1 (putP P1 0 (3,(f:Int))) D2).n=4:=by
  show keptS2.n=4
  rw [keptS2_eq];rfl
 have hm4:msJ (keptS2.space 1 (putP P1 0 (3,(f:Int))) D2) 1=putP P1 0 (3,(f:Int)):=by unfold msJ;rw [hms];rfl
 have hL:=k4.1.load_yes (p:=2) (o:=o2) hO 0 1 (by kernel_rfl)
 have hu:=(useE_3 (P2_0 (f:Int))).2
 have hv:loadV (msJ (keptS2.space 1 (putP P1 0 (3,(f:Int))) D2) o2.j) (keptS2.space 1 (putP P1 0 (3,(f:Int))) D2).W 0 1=5:=by
  show loadV (msJ (keptS2.space 1 (putP P1 0 (3,(f:Int))) D2) 1) D2 0 1=5
  rw [hm4]
  unfold loadV
  rw [if_pos hu]
  unfold wd
  rw [frm_some (P2_0 (f:Int)),if_neg (by simp only;omega)]
  simpa using hD
 have hu':useE (msJ (keptS2.space 1 (putP P1 0 (3,(f:Int))) D2) o2.j) 0 1 1=0:=by
  show useE (msJ (keptS2.space 1 (putP P1 0 (3,(f:Int))) D2) 1) 0 1 1=0
  rw [hm4];exact hu
 rw [hv,hu',uev_zero] at hL
 refine ⟨ad,cap,rfl,hL.mono ?_⟩
 rintro y w5 ⟨rfl,b5⟩
 have k5:=k4.below b5
 have h3:=k5.1.left
 rw [left_one hf hn4 hms] at h3
 refine ⟨rfl,h3.mono ?_⟩
 rintro y w6 ⟨rfl,rfl⟩
 refine ⟨rfl,(k5.exit_yes (p:=2) (o:=o2) hO (by omega) 0).mono ?_⟩
 rintro y w7 ⟨rfl,A7,k7,st7⟩
 have e7:exitKS (keptS2.space 1 (putP P1 0 (3,(f:Int))) D2) 2 o2 0=endKS (keptS2.space 1 (putP P1 0 (3,(f:Int))) D2) 2 o2 0:=if_neg (by omega)
 rw [e7] at k7
 have h4:=k7.1.left
 have hms7:(endKS (keptS2.space 1 (putP P1 0 (3,(f:Int))) D2) 2 o2 0).Ms=[noP,noP]:=by
  show (keptS2.space 1 (putP P1 0 (3,(f:Int))) D2).Ms.set 1 noP=_
  rw [hms];rfl
 rw [left_all (S:=endKS (keptS2.space 1 (putP P1 0 (3,(f:Int))) D2) 2 o2 0) hn4 hms7] at h4
 refine ⟨rfl,h4.mono ?_⟩
 rintro y w8 ⟨rfl,rfl⟩
 exact ⟨rfl,Stp.toBelow b1 hA ((((st2.trans st3).trans st4).trans (.below b5)).trans st7)⟩
theorem kept_ok {ok:Bool}(w:World) (hm:w.cell? ⟨4,0,none⟩=some (.int .i64 m)) (he:w.cell? ⟨0,0,none⟩=some errT) (ht:TabH ok w) :
 Calls Tryz.prog 11 #[] w fun e w'=>e=.returned (.bool true)∧Below w.heap.size w w':=by
 have ch:=kept_chain w hm he ht
 clear hm he ht
 go_enter Tryz.func11,Tryz.ntmps11
 go_wp2_with (first
  |(go_at_call 39;refine c7.mono ?_;rintro e w8 ⟨rfl,hR⟩)
  |(go_at_call 12;refine ch.mono ?_;rintro e w1 ⟨kb,rfl,c1⟩)
  |(go_at_call 14;refine c1.mono ?_;rintro e w2 ⟨rfl,c2⟩)
  |(go_at_call 45;refine c2.mono ?_;rintro e w3 ⟨rfl,c3⟩)
  |(go_at_call 42;refine c3.mono ?_;rintro e w4 ⟨ad,cap,rfl,c4⟩)
  |(go_at_call 44;refine c4.mono ?_;rintro e w5 ⟨rfl,c5⟩)
  |(go_at_call 39;refine c5.mono ?_;rintro e w6 ⟨rfl,c6⟩)
  |(go_at_call 20;refine c6.mono ?_;rintro e w7 ⟨rfl,c7⟩))
 go_ret
 exact ⟨rfl,hR⟩
end
end Go.Proofs.YtcfhanoekniaaaaGreatDoor
namespace Go.Proofs.YtcfhanoekniaaaaGreatDoor
section
variable {S S':KS}{p:Int}{o:Ow}{pg fd:Int}
theorem ms_end (hl:o.j<S.Ms.length) (c:Int) (i:Nat):msJ (endKS S p o c) i=if i=o.j then noP else msJ S i:=ms_space (S:=S.procs (exitP S.P p c)) hl noP S.W i
theorem ts_end (hj:o.j<S.Ts.length) (c:Int) (i:Nat):tsJ (endKS S p o c) i=if i=o.j then zeroN else tsJ S i:=ts_files (S:=(S.procs (exitP S.P p c)).space o.j noP S.W) hj (freeS true S.D (tsJ S o.j) 8).1 zeroN i
theorem O_end {x:Int}{o':Ow}{c:Int}(h:(endKS S p o c).O x=some o'):x≠p∧S.O x=some o':=by
 have h:delO S.O p x=some o':=h
 unfold delO at h
 split at h
 ·cases h
 ·rename_i z;exact ⟨z,h⟩
theorem O_end_ne {x:Int}{c:Int}(h:x≠p):(endKS S p o c).O x=S.O x:=by show delO S.O p x=_;unfold delO;rw [if_neg h]
theorem O_end_self {c:Int}:(endKS S p o c).O p=none:=by show delO S.O p p=_;unfold delO;rw [if_pos rfl]
theorem lenP_no:lenP noP=0:=lenP_none
theorem usedN_no:usedN zeroN=0:=by decide
theorem resP_lenP (P:PM):resP P≤lenP P:=by
 unfold resP lenP
 refine sumTo_le _ _ fun i _ _=>?_
 unfold frm
 cases P i with
 |none=>simp
 |some x=>simp;split<;>omega
structure LimK (S:KS) (pg fd:Int):Prop where
 m:∀p o,S.O p=some o→o.m 0=pg∧o.m 1=fd
 len:∀p o,S.O p=some o→((lenP (msJ S o.j):Nat):Int)≤pg
 use:∀p o,S.O p=some o→((usedN (tsJ S o.j):Nat):Int)≤fd
theorem LimK.less (h:LimK S pg fd) (e:∀x o',S'.O x=some o'→∃y o,S.O y=some o∧o'.m 0=o.m 0∧o'.m 1=o.m 1∧lenP (msJ S' o'.j)≤lenP (msJ S o.j)∧usedN (tsJ S' o'.j)≤usedN (tsJ S o.j)):LimK S' pg fd:=
 ⟨fun x o' ho=>by obtain ⟨y,o,h1,h2,h3,_⟩:=e x o' ho;rw [h2,h3];exact h.m y o h1,
  fun x o' ho=>by obtain ⟨y,o,h1,_,_,h4,_⟩:=e x o' ho;have:=h.len y o h1;omega,
  fun x o' ho=>by obtain ⟨y,o,h1,_,_,_,h5⟩:=e x o' ho;have:=h.use y o h1;omega⟩
theorem LimK.space (h:LimK S pg fd) (hl:o.j<S.Ms.length) {P':PM}{D':Nat→Nat→Int}(hP:((lenP P':Nat):Int)≤pg):LimK (S.space o.j P' D') pg fd:=
 ⟨h.m,fun x o' ho=>by
  rw [ms_space hl]
  split
  ·exact hP
  ·exact h.len x o' ho,h.use⟩
theorem LimK.files (h:LimK S pg fd) (hj:o.j<S.Ts.length) {D':DS}{N':Ns}(hN:((usedN N':Nat):Int)≤fd):LimK (S.files D' o.j N') pg fd:=
 ⟨h.m,h.len,fun x o' ho=>by
  rw [ts_files hj]
  split
  ·exact hN
  ·exact h.use x o' ho⟩
theorem LimK.ends (h:LimK S pg fd) (hj:o.j<S.Ts.length) (hl:S.Ms.length=S.Ts.length) (c:Int):LimK (endKS S p o c) pg fd:=
 h.less fun x o' ho=>⟨x,o',(O_end ho).2,rfl,rfl,by
  rw [ms_end (by omega)]
  split
  ·rw [lenP_no];omega
  ·omega,by
  rw [ts_end hj]
  split
  ·rw [usedN_no];omega
  ·omega⟩
theorem LimK.procs (h:LimK S pg fd) (P':Ps):LimK (S.procs P') pg fd:=⟨h.m,h.len,h.use⟩
theorem LimK.tree (h:LimK S pg fd) (T':Wd):LimK (S.tree T') pg fd:=⟨h.m,h.len,h.use⟩
end
section
variable {w:World}{m:Int}{H:KH}{S S':KS}{q:Nat}{A:Nat→Prop}{p a b c k v:Int}{s t:List UInt8}{o:Ow}{pg fd:Int}
structure Lie (S:KS):Prop where
 len:S.Ms.length=S.Ts.length
 lt:∀p o,S.O p=some o→o.j<S.Ts.length
 inj:∀p o p' o',S.O p=some o→S.O p'=some o'→o.j=o'.j→p=p'
theorem KN.lie (h:KN w m H S q A):Lie S:=by
 obtain ⟨⟨G,k,_⟩,_⟩:=h
 exact ⟨k.len,k.lt,fun p o p' o' h1 h2 e=>k.hinj p o p' o' h1 h2 (by rw [e])⟩
theorem Lie.ends (h:Lie S) (c:Int):Lie (endKS S p o c):=
 ⟨by show (S.Ms.set o.j noP).length=(S.Ts.set o.j zeroN).length;rw [List.length_set,List.length_set];exact h.len,
  fun x o' ho=>by show o'.j<(S.Ts.set o.j zeroN).length;rw [List.length_set];exact h.lt x o' (O_end ho).2,
  fun x o1 y o2 h1 h2 e=>h.inj x o1 y o2 (O_end h1).2 (O_end h2).2 e⟩
theorem LimK.store {went:List Int}{er:Int}(r:StoreK p a k v S went er S') (h:LimK S pg fd) (l:Lie S):LimK S' pg fd:=by
 induction r with
 |done ho hs h12=>
  have:=h.len _ _ ho
  have hj:=l.lt _ _ ho
  exact h.space (by rw [l.len];exact hj) (by rw [hs.len];exact this)
 |nobody ho hs hv=>exact h
 |self ho hs hv he=>exact h.ends (l.lt _ _ ho) l.len _
 |goes ho hs hv he hx h1 hne r ih=>exact ih (h.ends (l.lt _ _ hx) l.len _) (l.ends _)
theorem LimK.call {W e:Int}(r:CallK S p a b c s t W e S') (hW:W≠19) (hn:KN w m H S q A) (h:LimK S pg fd):LimK S' pg fd:=by
 have l:=hn.lie
 have h8:=fun j=>hn.1.tlen j
 have n0:0≤S.D.nx:=hn.1.inv.core.giv.n0
 cases r with
 |nobody ho hW=>exact h
 |other hW=>exact h
 |full hW ho hc=>exact h
 | @fork _ o _ ho hc=>
  refine h.less fun x o' hx=>?_
  have hx:putO S.O (leastJ S.P) ⟨S.Ts.length,o.m,o.adj⟩ x=some o':=hx
  have hm:∀i,msJ (forkKS S p o) i=msJ ((S.procs (forkP S.P p (leastJ S.P))).born o.j) i:=fun _=>rfl
  have ht:∀i,tsJ (forkKS S p o) i=tsJ ((S.procs (forkP S.P p (leastJ S.P))).born o.j) i:=fun _=>rfl
  rw [hm,ht,ms_born _ (show (S.procs (forkP S.P p (leastJ S.P))).Ms.length=(S.procs (forkP S.P p (leastJ S.P))).Ts.length from l.len),ts_born]
  by_cases e:x=leastJ S.P
  ·rw [e,putO_same] at hx
   cases hx
   refine ⟨p,o,ho,rfl,rfl,?_,?_⟩
   ·rw [if_pos (show ({ j:=S.Ts.length,m:=o.m,adj:=o.adj }:Ow).j=(S.procs (forkP S.P p (leastJ S.P))).Ts.length from rfl)];exact Nat.le_refl _
   ·rw [if_pos (show ({ j:=S.Ts.length,m:=o.m,adj:=o.adj }:Ow).j=(S.procs (forkP S.P p (leastJ S.P))).Ts.length from rfl)];exact Nat.le_refl _
  ·rw [putO_ne e] at hx
   have hne:¬o'.j=(S.procs (forkP S.P p (leastJ S.P))).Ts.length:=fun z=>by
    have:=l.lt x o' hx
    have z:o'.j=S.Ts.length:=z
    omega
   refine ⟨x,o',hx,rfl,rfl,?_,?_⟩
   ·rw [if_neg hne];exact Nat.le_refl _
   ·rw [if_neg hne];exact Nat.le_refl _
 |exit ho=>
  unfold exitKS
  split
  ·exact h
  ·exact h.ends (l.lt _ _ ho) l.len _
 | @exec o ho=>
  have hj:=l.lt _ _ ho
  have h1:=h.space (o:=o) (P':=noP) (D':=S.W) (by rw [l.len];exact hj) (by have:=h.len _ _ ho;rw [lenP_no];omega)
  refine LimK.files (o:=o) h1 hj ?_
  have h2:=used_free false S.D (tsJ S o.j) 8 (by rw [h8];omega)
  have h3:=h.use _ _ ho
  omega
 |wait ho=>exact h.procs _
 | @map _ o _ ho=>
  unfold mapKS
  split
  ·rename_i hE
   refine h.space (by rw [l.len];exact l.lt _ _ ho) ?_
   unfold mapKE at hE
   by_cases h0:mapE (msJ S o.j) a b c≠0
   ·rw [if_pos h0] at hE;exact absurd hE h0
   ·rw [if_neg h0] at hE
    have h0:mapE (msJ S o.j) a b c=0:=Classical.byContradiction h0
    rw [mapP_len h0]
    have h1:=(h.m _ _ ho).1
    split at hE
    ·omega
    ·omega
  ·exact h
 | @unmap o ho=>
  refine h.space (by rw [l.len];exact l.lt _ _ ho) ?_
  have h1:=lenP_unP (msJ S o.j) a b
  have h2:=h.len _ _ ho
  omega
 |store hW ho r=>exact h.store r l
 | @file _ o n k pr x e S' hW ho hn hk r=>
  rcases r with ⟨_,_,_,rfl⟩|⟨hf,D',N',hF,rfl⟩
  ·exact h
  ·refine h.files (l.lt _ _ ho) ?_
   obtain ⟨u1,u2⟩:=used_file (h8 o.j) n0 hF
   have h2:=h.use _ _ ho
   have h3:=(h.m _ _ ho).2
   unfold fitsF at hf
   by_cases he:e=0
   ·rw [u1 he];omega
   ·rw [(u2 he).2.2];omega
 | @pipe o n x y e S' ho hn' r=>
  rcases r with ⟨_,_,_,_,rfl⟩|⟨hf,D',N',hF,rfl⟩
  ·exact h
  ·refine h.files (l.lt _ _ ho) ?_
   obtain ⟨u1,u2⟩:=used_pipe (h8 o.j) (fun z hz=>((hn.1.tabs ho).1 z hz).1) n0 hF
   have h2:=h.use _ _ ho
   have h3:=(h.m _ _ ho).2
   unfold fitsF at hf
   by_cases he:e=0
   ·rw [u1 he];omega
   ·rw [(u2 he).2.2.2];omega
 | @dup o ho=>
  unfold dupKS
  split
  ·rename_i hf
   refine h.files (l.lt _ _ ho) ?_
   obtain ⟨u1,u2⟩:=used_dup (D:=S.D) (h8 o.j) a
   have h2:=h.use _ _ ho
   have h3:=(h.m _ _ ho).2
   unfold fitsF at hf
   by_cases he:dupE (tsJ S o.j) a=0
   ·rw [u1 he];omega
   ·rw [(u2 he).2.2];omega
  ·exact h
 | @dup2 o ho=>
  unfold dup2KS
  split
  ·rename_i hE
   refine h.files (l.lt _ _ ho) ?_
   have u:=used_dup2 (h8 o.j) a b
   have h2:=h.use _ _ ho
   have h3:=(h.m _ _ ho).2
   rw [u]
   unfold dup2KE at hE
   split at hE
   ·contradiction
   ·split at hE
    ·rename_i hz
     rcases hz with hz|hz
     ·rw [if_neg (fun z=>by rw [hz] at z;exact absurd z.2 (by simp))];omega
     ·unfold fitsF at hz
      split<;>omega
    ·omega
  ·exact h
 | @close o ho=>
  refine h.files (l.lt _ _ ho) ?_
  have u:=used_close (h8 o.j) a
  have h2:=h.use _ _ ho
  omega
 | @write o ho=>
  unfold writeKS
  split
  ·exact (h.files (l.lt _ _ ho) (h.use _ _ ho)).procs _
  ·exact h.files (l.lt _ _ ho) (h.use _ _ ho)
 | @read o ho=>exact h.files (l.lt _ _ ho) (h.use _ _ ho)
 |limit ho=>exact absurd rfl hW
 |kill ho=>exact h.procs _
 | @signal o ho h1 hs=>exact (h.procs (takeP S.P p)).ends (p:=p) (o:=o) (l.lt _ _ ho) l.len _
 |quiet ho hs=>exact h
 |first ho h1=>exact h.procs _
 |mkdir ho hk r=>exact h.tree _
 |unlink ho=>exact h.tree _
 |rename ho=>exact h.tree _
 | @protect o ho=>exact h.space (by rw [l.len];exact l.lt _ _ ho) (by rw [lenP_proP];exact h.len _ _ ho)
 | @mark o yes ho=>exact h.files (l.lt _ _ ho) (by rw [used_mark (h8 o.j)];exact h.use _ _ ho)
 | @adjust o ho=>
  unfold adjKS
  split
  ·refine h.less fun x o' hx=>?_
   have hx:putO S.O p ⟨o.j,o.m,a⟩ x=some o':=hx
   by_cases e:x=p
   ·rw [e,putO_same] at hx
    cases hx
    exact ⟨p,o,ho,rfl,rfl,Nat.le_refl _,Nat.le_refl _⟩
   ·rw [putO_ne e] at hx
    exact ⟨x,o',hx,rfl,rfl,Nat.le_refl _,Nat.le_refl _⟩
  ·exact h
theorem LimK.begin {n:Nat}{pg fd:Int}(h0:0≤pg∧0≤fd) {S1:KS}(h1:S1=limKS (limKS (firstS n) 1 ⟨0,firstM,0⟩ 0 pg) 1 ⟨0,limM firstM 0 pg,0⟩ 1 fd) (h2:pg≤1000000∧fd≤1000000):LimK S1 pg fd:=by
 have l1:limE 0 pg=0:=by unfold limE;rw [if_neg (by omega),if_neg (by omega)]
 have l2:limE 1 fd=0:=by unfold limE;rw [if_neg (by omega),if_neg (by omega)]
 have e1:limM firstM 0 pg=put firstM 0 pg:=by unfold limM;rw [l1];rfl
 have e2:limM (put firstM 0 pg) 1 fd=put (put firstM 0 pg) 1 fd:=by unfold limM;rw [l2];rfl
 have hO:∀x o,S1.O x=some o→o=⟨0,put (put firstM 0 pg) 1 fd,0⟩:=fun x o hx=>by
  rw [h1] at hx
  have hx:putO (putO (firstS n).O 1 ⟨0,limM firstM 0 pg,0⟩) 1 ⟨0,limM (limM firstM 0 pg) 1 fd,0⟩ x=some o:=hx
  rw [e1,e2] at hx
  by_cases e:x=1
  ·rw [e,putO_same] at hx;exact (Option.some.inj hx).symm
  ·rw [putO_ne e,putO_ne e] at hx
   have hx:(if x=1 then some (⟨0,firstM,0⟩:Ow) else none)=some o:=hx
   rw [if_neg e] at hx;cases hx
 refine ⟨fun x o hx=>?_,fun x o hx=>?_,fun x o hx=>?_⟩
 ·rw [hO x o hx];exact ⟨rfl,rfl⟩
 ·rw [hO x o hx,h1]
  show ((lenP noP:Nat):Int)≤pg
  rw [lenP_no];omega
 ·rw [hO x o hx,h1]
  show ((usedN zeroN:Nat):Int)≤fd
  rw [usedN_no];omega
end
end Go.Proofs.YtcfhanoekniaaaaGreatDoor
namespace Go.Proofs.YtcfhanoekniaaaaGreatDoor
open Go.RowKit Go.Maps
def dT (a b:Int) (B:List UInt8):DS:=⟨nullT,fun i=>if i=3 then some ⟨3,2,0,1,0⟩ else if i=2 then some ⟨2,1,0,1,0⟩ else none,fun i=>if i=3 then some b else if i=2 then some a else none,fun i=>if i=1 then some (B,1,1) else none,3⟩
abbrev tA:Ns:=[(2,false),(3,false),(0,false),(0,false),(0,false),(0,false),(0,false),(0,false)]
end Go.Proofs.YtcfhanoekniaaaaGreatDoor
namespace Go.Proofs.YtcfhanoekniaaaaGreatDoor
open Go.RowKit Go.Maps
theorem talk_pick (a:Int) (n:Nat) (h1:1≤n) (h2:n≤1000000):∃r:Nat,r<n∧∀w:World,Calls Tryz.prog 18 #[.int .i64 a,.int .i64 n] w fun e w'=>e=.returned (.int .i64 r)∧w'=w:=by
 have hb:=ppick_bounds a n (by omega) (by omega)
 obtain ⟨r,hr⟩:∃r:Nat,wrap64 ((IntKind.u64.wrap a).tmod n)=r:=⟨(wrap64 ((IntKind.u64.wrap a).tmod n)).toNat,by omega⟩
 rw [hr] at hb
 refine ⟨r,by omega,fun w=>?_⟩
 go_enter Tryz.func18,Tryz.ntmps18
 go_wp2
 go_ret
 exact ⟨by rw [←hr];rfl,rfl⟩
end Go.Proofs.YtcfhanoekniaaaaGreatDoor

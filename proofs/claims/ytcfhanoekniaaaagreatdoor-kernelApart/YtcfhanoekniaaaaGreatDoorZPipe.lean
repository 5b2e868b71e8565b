/- How many numbers a table has, behind each call. -/
import Derived.Test.YtcfhanoekniaaaaGreatDoorDFlat2
import Derived.Test.YtcfhanoekniaaaaGreatDoorZNo
set_option maxHeartbeats 4000000
set_option maxRecDepth 100000
namespace Go.Proofs.YtcfhanoekniaaaaGreatDoor
theorem l8:∀(N:Ns) (i:Nat) (hi:i<N.length) (y:Int×Bool),aj (N.set i y)+(if 0<N[i].1 then 1 else 0)=aj N+(if 0<y.1 then 1 else 0)
 | [],i,hi,_=>absurd hi (Nat.not_lt_zero _)
 |x :: N,0,_,y=>by
  simp only [List.set_cons_zero,aj,List.filter_cons,List.getElem_cons_zero,decide_eq_true_eq]
  split<;>split<;>simp
 |x :: N,i+1,hi,y=>by
  have:=l8 N i (by simpa using hi) y
  simp only [List.set_cons_succ,aj,List.filter_cons,List.getElem_cons_succ] at this ⊢
  split
  ·simp only [List.length_cons];omega
  ·exact this
section
variable {D:DS}{N:Ns}{x y:Int}
theorem xq (h8:N.length=8) (x:Int):aj (fO N x)+(if aG N x=true then 1 else 0)=aj N:=by
 unfold fO
 by_cases h:aG N x=true
 ·rw [if_pos h,if_pos h]
  obtain ⟨i,rfl,hi,aD,h0⟩:=dL h h8
  have:=l8 N i aD (0,false)
  rw [if_pos h0,if_neg (by simp)] at this
  rw [Int.toNat_natCast];omega
 ·rw [if_neg h,if_neg h];omega
theorem Jm (h8:N.length=8) (x:Int) (c:Bool):aj (jy N x c)=aj N:=by
 unfold jy
 by_cases h:aG N x=true
 ·rw [if_pos h]
  obtain ⟨i,rfl,hi,aD,h0⟩:=dL h h8
  have:=l8 N i aD ((N.getD i (0,false)).1,c)
  have e:N.getD i (0,false)=N[i]:=by rw [List.getD_eq_getElem?_getD,List.getElem?_eq_getElem aD];rfl
  rw [e,if_pos h0] at this
  rw [Int.toNat_natCast,e];omega
 ·rw [if_neg h]
theorem yQ (all:Bool) (D:DS) (N:Ns):∀i,i≤N.length→aj (ai all D N i).2≤aj N
 |0,_=>Nat.le_refl _
 |i+1,hi=>by
  have ih:=yQ all D N i (by omega)
  rw [ai]
  split
  ·have hl:=(gy all D N i).1
   have:=l8 (ai all D N i).2 i (by omega) (0,false)
   rw [if_neg (show ¬(0:Int)<((0,false):Int×Bool).1 by simp)] at this
   simp only;omega
  ·exact ih
theorem Kl (_h8:N.length=8) (h:¬au N<0):∃i:Nat,au N=i∧∃hi:i<N.length,N[i].1=0:=by
 rcases kg (N:=N) with e|e
 ·rw [e] at h;exact absurd (by omega) h
 ·exact e
theorem oC (h8:N.length=8) (h:¬au N<0) {d:Int}(hd:0<d) (c:Bool):aj (N.set (au N).toNat (d,c))=aj N+1:=by
 obtain ⟨i,e,hi,h0⟩:=Kl h8 h
 have:=l8 N i hi (d,c)
 rw [h0,if_neg (by omega),if_pos hd] at this
 rw [e,Int.toNat_natCast];omega
theorem Jo {n s:Nat}{p:List UInt8}{pr:Int}{mk:Bool}{c:Int}{D':DS}{N':Ns}(h8:N.length=8) (hn:0≤D.nx) (h:iG D N n s p pr mk x c D' N'):(c=0→aj N'=aj N+1)∧(c≠0→x=0∧D'=D∧N'=N):=by
 cases h with
 |opened hp hr hE hh=>exact ⟨fun _=>oC h8 hr.1 (by omega) _,fun z=>absurd rfl z⟩
 |made hp hr hE hm hM k hk=>exact ⟨fun _=>oC h8 hr.1 (by omega) _,fun z=>absurd rfl z⟩
 |arg=>exact ⟨fun z=>by omega,fun _=>⟨rfl,rfl,rfl⟩⟩
 |full=>exact ⟨fun z=>by omega,fun _=>⟨rfl,rfl,rfl⟩⟩
 |no _ _ hE=>exact ⟨fun z=>absurd z hE,fun _=>⟨rfl,rfl,rfl⟩⟩
 |dir _ _ _ hh=>exact ⟨fun z=>absurd z hh,fun _=>⟨rfl,rfl,rfl⟩⟩
 |MK _ _ _ _ hM=>exact ⟨fun z=>absurd z hM,fun _=>⟨rfl,rfl,rfl⟩⟩
theorem Ni (h8:N.length=8) (x:Int):(iQ N x=0→aj (jQ N x)=aj N+1)∧(iQ N x≠0→iC N x=0∧jR D N x=D∧jQ N x=N):=by
 refine ⟨fun h=>?_,fun h=>⟨if_neg h,if_neg h,if_neg h⟩⟩
 unfold jQ
 rw [if_pos h]
 unfold iQ at h
 split at h
 ·rename_i hx
  split at h
  ·omega
  ·rename_i hl
   obtain ⟨i,rfl,hi,aD,h0⟩:=dL hx h8
   rw [getD_in aD]
   exact oC h8 hl h0 _
 ·omega
theorem Jk {n:Nat}{c:Int}{D':DS}{N':Ns}(h8:N.length=8) (hnn:∀x∈N,0≤x.1) (hn:0≤D.nx) (h:qc D N n x y c D' N'):(c=0→aj N'=aj N+2)∧(c≠0→x=0∧y=0∧D'=D∧N'=N):=by
 rcases h with ⟨_,rfl,rfl,rfl,rfl,rfl⟩|⟨hf,rfl,rfl,rfl,rfl,rfl⟩
 ·exact ⟨fun z=>by omega,fun _=>⟨rfl,rfl,rfl,rfl⟩⟩
 ·refine ⟨fun _=>?_,fun z=>absurd rfl z⟩
  have hu:aj N+2≤8:=by unfold sV at hf;omega
  have e1:¬au N<0:=fun z=>by
   have:=(iY hnn).1 z;omega
  have u1:aj (dC D N)=aj N+1:=oC h8 e1 (show 0<(jY D).nx+1 by unfold jY;simp only;omega) false
  have h8':(dC D N).length=8:=by unfold dC addN;rw [List.length_set];exact h8
  have h2:∀x∈dC D N,0≤x.1:=fun x hx=>by
   unfold dC addN at hx
   rcases List.mem_or_eq_of_mem_set hx with h1|h1
   ·exact hnn x h1
   ·rw [h1];show 0≤D.nx+1+1;omega
  have e2:¬au (dC D N)<0:=fun z=>by
   have:=(iY h2).1 z;omega
  have:=oC h8' e2 (show 0<(ou D).nx+1 by unfold ou jY iR;simp only;omega) false
  unfold yL addN
  omega
theorem Jp (h8:N.length=8) (x y:Int):aj (dV N x y)=aj N+(if eD N x y=0∧aG N y=false then 1 else 0):=by
 unfold dV
 by_cases hE:eD N x y=0
 ·have hE':=hE
  unfold eD at hE
  split at hE
  ·rename_i hx
   split at hE
   ·rename_i hy
    obtain ⟨i,rfl,hi,aD,h0⟩:=dL hx h8
    obtain ⟨j,rfl⟩:∃j:Nat,y=j:=⟨y.toNat,by omega⟩
    have sG:j<N.length:=by omega
    by_cases e:(i:Int)=j
    ·have:i=j:=by omega
     subst this
     rw [if_neg (fun z=>z.2 rfl),if_neg]
     ·rfl
     ·rintro ⟨_,z⟩;rw [hx] at z;cases z
    ·rw [if_pos ⟨hE',e⟩,getD_in aD,Int.toNat_natCast]
     have:=l8 N j sG (N[i].1,false)
     rw [if_pos h0] at this
     by_cases hj0:0<N[j].1
     ·have hh:aG N j=true:=by
       unfold aG;rw [getD_in sG];simp;omega
      rw [if_pos hj0] at this
      rw [if_neg (by rw [hh];simp)];omega
     ·have hh:aG N j=false:=by
       unfold aG;rw [getD_in sG];simp;omega
      rw [if_neg hj0] at this
      rw [if_pos ⟨hE',hh⟩];omega
   ·omega
  ·omega
 ·rw [if_neg (fun z=>hE z.1),if_neg (fun z=>hE z.1)];rfl
theorem Nv {N':Ns}(h8:N'.length=8) (hu:aj N'=0) (ht:∀x∈N',0≤x.1∧(x.1=0→x.2=false)):N'=bE:=by
 have h1:∀x∈N',x=((0:Int),false):=fun x hx=>by
  have a:=ht x hx
  have b:¬0<x.1:=fun z=>by
   unfold aj at hu
   rw [List.length_eq_zero_iff,List.filter_eq_nil_iff] at hu
   exact hu x hx (by simpa using z)
  have c:x.1=0:=by omega
  exact Prod.ext c (a.2 c)
 exact List.eq_replicate_iff.2 ⟨h8,h1⟩
end
end Go.Proofs.YtcfhanoekniaaaaGreatDoor
namespace Go.Proofs.YtcfhanoekniaaaaGreatDoor
open Go.RowKit Go.Maps
section
variable {w w':World}{m:Int}{H:KH}{S:KS}{U:Nat→Nat→Int}{q:Nat}{A:Nat→Prop}{p:Int}{o:Ow}
theorem KX.lL (h:KX w m H S U q A) (ho:S.O p=some o):w.cell? ⟨H.kb,2,none⟩=some (wp H.f)∧w.cell? ⟨H.hs o.j,1,none⟩=some (wp (H.tb o.j)):=⟨h.c2,(h.hd ho).at 1⟩
theorem KN.Oc (h:KN w m H S q A) (ho:S.O p=some o) (x:Int) (c:Bool) :
 Calls Tryz.prog 189 #[wp H.kb,.int .i64 p,.int .i64 x,.bool c] w fun y w'=>y=.returned (aH (if aG (ax S o.j) x=true then 0 else 7))∧∃A',KN w' m H (S.files S.D o.j (jy (ax S o.j) x c)) q A'∧Stp w w' A A':=by
 have hF:=h.1.aB ho
 have hj:=h.1.qh ho
 have c0:=h.1.lL ho
 have hU:Calls Tryz.prog 265 #[wp H.f,wp (H.tb o.j),.int .i64 x,.bool c] w.drew fun y w'=>y=.returned (aH (if aG (ax S o.j) x=true then 0 else 7))∧(w'.cell? ⟨H.kb,2,none⟩=some (wp H.f)∧w'.cell? ⟨H.hs o.j,1,none⟩=some (wp (H.tb o.j)))∧∃A',KN w' m H (S.files S.D o.j (jy (ax S o.j) x c)) q A'∧Stp w w' A A':=by
  refine ((h.1.below (bG w)).markT hj x c).mono ?_
  rintro y w1 ⟨rfl,A1,h1,st1⟩
  exact ⟨rfl,h1.lL (p:=p) (o:=o) ho,A1,h1.AP h.2 ho hj (Jm (h.1.sJ _) x c),Stp.base (V:=w.drew) rfl rfl rfl rfl st1⟩
 generalize S.files S.D o.j (jy (ax S o.j) x c)=S2 at *
 generalize (if aG (ax S o.j) x=true then (0:Int) else 7)=E at *
 clear h ho hj
 go_enter Tryz.func189,Tryz.ntmps189
 go_upto_region 4 with (go_at_call 51;refine hF.mono ?_;rintro e w1 ⟨rfl,hw⟩;subst w1)
 go_region_held3 (fun w'=>w'.cell? ⟨H.kb,2,none⟩=some (wp H.f)∧w'.cell? ⟨H.hs o.j,1,none⟩=some (wp (H.tb o.j))) (first|exact c0|exact c1) (first
  |(go_at_call 265;refine hU.mono ?_;rintro e w1 ⟨rfl,c1,hR⟩))
 all_goals
  go_wp2_with fail
  go_ret
  exact ⟨rfl,hR⟩
theorem KN.NH (h:KN w m H S q A) (ho:S.O p=some o) (x a:Int) :
 Calls Tryz.prog 19 #[wp H.kb,.int .i64 p,.int .i64 x,.int .i64 a] w fun y w'=>y=.returned (.tuple #[tx (dh S.D (ax S o.j) x a).1,aH (dh S.D (ax S o.j) x a).2.1])∧∃A',KN w' m H (S.files (dh S.D (ax S o.j) x a).2.2 o.j (ax S o.j)) q A'∧Stp w w' A A':=by
 have hF:=h.1.aB ho
 have hj:=h.1.qh ho
 have c0:=h.1.lL ho
 have hU:Calls Tryz.prog 63 #[wp H.f,wp (H.tb o.j),.int .i64 x,.int .i64 a] w.drew fun y w'=>y=.returned (.tuple #[tx (dh S.D (ax S o.j) x a).1,aH (dh S.D (ax S o.j) x a).2.1])∧(w'.cell? ⟨H.kb,2,none⟩=some (wp H.f)∧w'.cell? ⟨H.hs o.j,1,none⟩=some (wp (H.tb o.j)))∧∃A',KN w' m H (S.files (dh S.D (ax S o.j) x a).2.2 o.j (ax S o.j)) q A'∧Stp w w' A A':=by
  refine ((h.1.below (bG w)).Xd hj x a).mono ?_
  rintro y w1 ⟨rfl,A1,h1,st1⟩
  exact ⟨rfl,h1.lL (p:=p) (o:=o) ho,A1,h1.AP h.2 ho hj rfl,Stp.base (V:=w.drew) rfl rfl rfl rfl st1⟩
 generalize S.files (dh S.D (ax S o.j) x a).2.2 o.j (ax S o.j)=S2 at *
 generalize (dh S.D (ax S o.j) x a).2.1=E at *
 generalize (dh S.D (ax S o.j) x a).1=X at *
 clear h ho hj
 go_enter Tryz.func19,Tryz.ntmps19
 go_upto_region 4 with (go_at_call 51;refine hF.mono ?_;rintro e w1 ⟨rfl,hw⟩;subst w1)
 go_region_held3 (fun w'=>w'.cell? ⟨H.kb,2,none⟩=some (wp H.f)∧w'.cell? ⟨H.hs o.j,1,none⟩=some (wp (H.tb o.j))) (first|exact c0|exact c1) (first
  |(go_at_call 63;refine hU.mono ?_;rintro e w1 ⟨rfl,c1,hR⟩))
 all_goals
  go_wp2_with fail
  go_ret2
  exact ⟨rfl,hR⟩
noncomputable def rJ (S:KS) (o:Ow) (x:Int):KS:=S.files (gM S.D (ax S o.j) x) o.j (fO (ax S o.j) x)
theorem KX.Qx (h:KN w m H S q A) (ho:S.O p=some o) {V:World}{D':DS}{N':Ns}{q':Nat}{A1:Nat→Prop}(h1:KX V m H (S.files D' o.j N') (jM S) q' A1) (st1:Stp w V A A1) (hu:aj N'≤aj (ax S o.j)) :
 Calls Tryz.prog 58 #[wp (H.hs o.j)] V fun y w2=>y=.returned (.tuple #[])∧∃A',KN w2 m H (S.files D' o.j N') q' A'∧Stp w w2 A A':=by
 have hj:=h.1.qh ho
 refine (h1.settle (h.2.files ho _ _) (p:=p) (o:=o) ho (h.1.ET o.j) ?_ ?_ rfl (fun p' o' ho' hne k hk=>?_)).mono ?_
 ·exact Int.le_refl _
 ·rw [fo hj,if_pos rfl]
  show _≤((aj (ax S o.j):Nat):Int)
  omega
 ·unfold jM
  rw [fo hj,if_neg hne,mh]
 ·rintro y w2 ⟨rfl,A2,h2,st2⟩
  exact ⟨rfl,A2,h2,st1.trans st2⟩
theorem KN.Ld (h:KN w m H S q A) (ho:S.O p=some o) (hq:q≤200) (x:Int) :
 Calls Tryz.prog 15 #[wp H.kb,.int .i64 p,.int .i64 x] w fun y w'=>y=.returned (aH (if aG (ax S o.j) x=true then 0 else 7))∧∃A',KN w' m H (rJ S o x) q A'∧Stp w w' A A':=by
 have hF:=h.1.aB ho
 have hj:=h.1.qh ho
 have c0:=h.1.lL ho
 have hU:Calls Tryz.prog 57 #[wp H.f,wp (H.tb o.j),.int .i64 x] w.drew fun y w'=>y=.returned (aH (if aG (ax S o.j) x=true then 0 else 7))∧(w'.cell? ⟨H.kb,2,none⟩=some (wp H.f)∧w'.cell? ⟨H.hs o.j,1,none⟩=some (wp (H.tb o.j)))∧((if aG (ax S o.j) x=true then (0:Int) else 7)≠0→∃A',KN w' m H (rJ S o x) q A'∧Stp w w' A A')∧((if aG (ax S o.j) x=true then (0:Int) else 7)=0→Calls Tryz.prog 58 #[wp (H.hs o.j)] w' fun y w2=>y=.returned (.tuple #[])∧∃A',KN w2 m H (rJ S o x) q A'∧Stp w w2 A A'):=by
  refine ((h.1.below (bG w)).Na hj hq x).mono ?_
  rintro y w1 ⟨rfl,A1,h1,st1⟩
  have st1':Stp w w1 A A1:=Stp.base (V:=w.drew) rfl rfl rfl rfl st1
  refine ⟨rfl,h1.lL (p:=p) (o:=o) ho,fun hc=>⟨A1,h1.AP h.2 ho hj ?_,st1'⟩,fun hc=>KX.Qx h ho h1 st1' ?_⟩
  ·have:=xq (h.1.sJ o.j) x
   split at hc
   ·exact absurd rfl hc
   ·rename_i z;rw [if_neg z] at this;omega
  ·have:=xq (h.1.sJ o.j) x
   omega
 generalize rJ S o x=S2 at *
 generalize (if aG (ax S o.j) x=true then (0:Int) else 7)=E at *
 clear h ho hj
 go_enter Tryz.func15,Tryz.ntmps15
 go_upto_region 4 with (go_at_call 51;refine hF.mono ?_;rintro e w1 ⟨rfl,hw⟩;subst w1)
 go_region_held3 (fun w'=>w'.cell? ⟨H.kb,2,none⟩=some (wp H.f)∧w'.cell? ⟨H.hs o.j,1,none⟩=some (wp (H.tb o.j))) (first|exact c0|exact c1) (first
  |(go_at_call 57;refine hU.mono ?_;rintro e w1 ⟨rfl,c1,hx1,hx0⟩;have X1:Aside _:=hx1;have X0:Aside _:=hx0;clear hx1 hx0))
 all_goals
  clear hU hF c0 c1
  by_cases hE:E=0
  ·have hs:=X0.out hE
   clear X1 X0
   subst hE
   rw [aC]
   go_wp2_with (go_at_call 58;refine hs.mono ?_;rintro e w2 ⟨rfl,hR⟩)
   go_ret
   exact ⟨rfl,hR⟩
  ·have hR:=X1.out hE
   have HE:Aside (E≠0):=hE
   rw [az hE]
   clear X1 X0 hE
   go_wp2_with fail
   go_ret
   exact ⟨by rw [az HE.out];rfl,hR⟩
noncomputable def AQ (S:KS) (o:Ow):KS:=(S.space o.j kL S.W).files (ai false S.D (ax S o.j) 8).1 o.j (ai false S.D (ax S o.j) 8).2
theorem KN.OB (h:KN w m H S q A) (ho:S.O p=some o) (hq:q≤200) :
 Calls Tryz.prog 37 #[wp H.kb,.int .i64 p] w fun y w'=>y=.returned .nilIface∧∃A',KN w' m H (AQ S o) q A'∧Stp w w' A A':=by
 have hF:=h.1.aB ho
 have hj:=h.1.qh ho
 have sw:=h.1.mlt ho
 have d0:w.cell? ⟨H.hs o.j,0,none⟩=some (wp (H.sp o.j)):=(h.1.hd ho).at 0
 have hC:Calls Tryz.prog 114 #[wp (H.sp o.j)] w fun y w'=>y=.returned (.tuple #[])∧(w'.cell? ⟨H.kb,2,none⟩=some (wp H.f)∧w'.cell? ⟨H.hs o.j,1,none⟩=some (wp (H.tb o.j)))∧
  Calls Tryz.prog 115 #[wp H.f,wp (H.tb o.j)] w'.drew fun y w2=>y=.returned (.tuple #[])∧(w2.cell? ⟨H.kb,2,none⟩=some (wp H.f)∧w2.cell? ⟨H.hs o.j,1,none⟩=some (wp (H.tb o.j)))∧Calls Tryz.prog 58 #[wp (H.hs o.j)] w2 fun y w3=>y=.returned (.tuple #[])∧∃A',KN w3 m H (AQ S o) q A'∧Stp w w3 A A':=by
  refine (h.1.Nb hj).mono ?_
  rintro y w1 ⟨rfl,A1,h1,st1⟩
  refine ⟨rfl,h1.lL (p:=p) (o:=o) ho,((h1.below (bG w1)).Xx (o:=o) hj hq).mono ?_⟩
  rintro y w2 ⟨rfl,A2,h2,st2⟩
  have st2':Stp w w2 A A2:=st1.trans (Stp.base (V:=w1.drew) rfl rfl rfl rfl st2)
  refine ⟨rfl,h2.lL (p:=p) (o:=o) ho,(h2.settle ((h.2.space ho h.1.len _ _).files (p:=p) (o:=o) ho _ _) (p:=p) (o:=o) ho (h.1.ET o.j) ?_ ?_ rfl (fun p' o' ho' hne k hk=>?_)).mono ?_⟩
  ·rw [mh,dM sw,if_pos rfl]
   show ((bI kL:Nat):Int)≤_
   rw [show bI kL=0 from pI]
   exact (h.1.ET o.j 0).1
  ·rw [fo (S:=S.space o.j kL S.W) hj,if_pos rfl]
   have:=yQ false S.D (ax S o.j) 8 (by rw [h.1.sJ];exact Nat.le_refl _)
   show ((aj (ai false S.D (ax S o.j) 8).2:Nat):Int)≤((aj (ax S o.j):Nat):Int)
   omega
  ·unfold jM
   rw [fo (S:=S.space o.j kL S.W) hj,if_neg hne,mh,dM sw,if_neg hne,oD]
  ·rintro y w3 ⟨rfl,A3,h3,vI⟩
   exact ⟨rfl,A3,h3,st2'.trans vI⟩
 generalize AQ S o=S2 at *
 clear h ho hj sw
 go_enter Tryz.func37,Tryz.ntmps37
 go_upto_region 5 with (first
  |(go_at_call 51;refine hF.mono ?_;rintro e w1 ⟨rfl,hw⟩;subst w1)
  |(go_at_call 114;refine hC.mono ?_;rintro e w1 ⟨rfl,c0,hE⟩))
 clear hF hC d0
 go_region_held3 (fun w'=>w'.cell? ⟨H.kb,2,none⟩=some (wp H.f)∧w'.cell? ⟨H.hs o.j,1,none⟩=some (wp (H.tb o.j))) (first|exact c0|exact c1) (first
  |(go_at_call 115;refine hE.mono ?_;rintro e w2 ⟨rfl,c1,hs⟩))
 all_goals
  clear hE c0 c1
  go_wp2_with (go_at_call 58;refine hs.mono ?_;rintro e w3 ⟨rfl,hR⟩)
  go_ret
  exact ⟨rfl,hR⟩
end
section
variable {w w':World}{m:Int}{H:KH}{S:KS}{U:Nat→Nat→Int}{q:Nat}{A:Nat→Prop}{p:Int}{o:Ow}
noncomputable def df (S:KS) (p:Int) (o:Ow) (code:Int):KS:=((((S.procs (dz S.P p code)).space o.j kL S.W).files (ai true S.D (ax S o.j) 8).1 o.j bE)).drop p
theorem KX.drop (h:KX w m H S U q A) (hp:(Lit.int .i64 p).wf=true):∃w',(∀ty,(Builtin.delete_ #[104,3] ty #[.map (some H.gm),.int .i64 p]).run Tryz.prog w=.ok (.tuple #[]) w')∧∃A',KX w' m H (S.drop p) U q A'∧Stp w w' A A':=by
 obtain ⟨G,k,e⟩:=h
 obtain ⟨z,hm⟩:=k.map
 obtain ⟨w',hrun,hm',g⟩:=IE hm Tryz.underlying104 p hp
 obtain ⟨G',k',st⟩:=k.del hm' g
 exact ⟨w',hrun,_,.of k',oZ e st⟩
theorem JO (P:Ps) (code x:Int) (hr:ay P p=true):ay (dz P p code) x=if x=p then false else ay P x:=by
 obtain ⟨q,hq,_⟩:=bY.1 hr
 unfold ay
 rw [rQ]
 by_cases e:x=p
 ·subst e
  rw [if_pos ⟨rfl,by rw [hq];rfl⟩,if_pos rfl];rfl
 ·rw [if_neg (fun z=>e z.1),if_neg e]
theorem oW.ends (k:oW S) (ho:S.O p=some o) (hj:o.j<S.Ts.length) (hl:S.Ms.length=S.Ts.length) (hinj:∀p' o',S.O p'=some o'→o'.j=o.j→p'=p) (code:Int):oW (df S p o code):=by
 have hr:ay S.P p=true:=by rw [←k.run p,ho];rfl
 have hO:∀x o',jU S.O p x=some o'→x≠p∧S.O x=some o':=fun x o' e=>by
  unfold jU at e
  split at e
  ·cases e
  ·rename_i z;exact ⟨z,e⟩
 refine ⟨fun x=>?_,fun j hj' hn=>?_,fun x o' e=>k.fit x o' (hO x o' e).2⟩
 ·show (jU S.O p x).isSome=ay (dz S.P p code) x
  rw [JO _ _ _ hr]
  unfold jU
  by_cases e:x=p
  ·rw [if_pos e,if_pos e];rfl
  ·rw [if_neg e,if_neg e];exact k.run x
 ·have hjl:j<S.Ts.length:=by
   have:j<(S.Ts.set o.j bE).length:=hj'
   simpa using this
  have e1:ax (df S p o code) j=if j=o.j then bE else ax S j:=fo (S:=(S.procs (dz S.P p code)).space o.j kL S.W) hj (ai true S.D (ax S o.j) 8).1 bE j
  have e2:aK (df S p o code) j=if j=o.j then kL else aK S j:=dM (S:=S.procs (dz S.P p code)) (by show o.j<S.Ms.length;omega) kL S.W j
  rw [e1,e2]
  by_cases ej:j=o.j
  ·rw [if_pos ej,if_pos ej];exact ⟨rfl,rfl⟩
  ·rw [if_neg ej,if_neg ej]
   refine k.gone j hjl (fun x o' e z=>?_)
   by_cases ex:x=p
   ·subst ex
    rw [ho] at e
    cases e
    exact ej z.symm
   ·exact hn x o' (by show jU S.O p x=some o';unfold jU;rw [if_neg ex];exact e) z
theorem KX.clear (h:KX w m H S U q A) (ho:S.O p=some o) (hq:q≤200) :
 Calls Tryz.prog 159 #[wp (H.hs o.j),wp H.f] w fun y w'=>y=.returned (.tuple #[])∧∃A',KX w' m H ((S.space o.j kL S.W).files (ai true S.D (ax S o.j) 8).1 o.j (ai true S.D (ax S o.j) 8).2) U q A'∧Stp w w' A A':=by
 have hj:=h.qh ho
 have d0:w.cell? ⟨H.hs o.j,0,none⟩=some (wp (H.sp o.j)):=(h.hd ho).at 0
 have hC:Calls Tryz.prog 114 #[wp (H.sp o.j)] w fun y w'=>y=.returned (.tuple #[])∧w'.cell? ⟨H.hs o.j,1,none⟩=some (wp (H.tb o.j))∧
  Calls Tryz.prog 250 #[wp H.f,wp (H.tb o.j)] w' fun y w2=>y=.returned (.tuple #[])∧∃A',KX w2 m H ((S.space o.j kL S.W).files (ai true S.D (ax S o.j) 8).1 o.j (ai true S.D (ax S o.j) 8).2) U q A'∧Stp w w2 A A':=by
  refine (h.Nb hj).mono ?_
  rintro y w1 ⟨rfl,A1,h1,st1⟩
  refine ⟨rfl,(h1.hd (p:=p) (o:=o) ho).at 1,(h1.Vg (o:=o) hj hq).mono ?_⟩
  rintro y w2 ⟨rfl,A2,h2,st2⟩
  exact ⟨rfl,A2,h2,st1.trans st2⟩
 generalize (S.space o.j kL S.W).files (ai true S.D (ax S o.j) 8).1 o.j (ai true S.D (ax S o.j) 8).2=S2 at *
 clear h ho hj
 go_enter Tryz.func159,Tryz.ntmps159
 go_upto_region 1 with (go_at_call 114;refine hC.mono ?_;rintro e w1 ⟨rfl,c1,hE⟩)
 go_wp2_with (go_at_call 250;refine hE.mono ?_;rintro e w2 ⟨rfl,hR⟩)
 go_end0
 exact ⟨rfl,hR⟩
theorem KX.SB (h:KX w m H S U q A) (ho:S.O p=some o):(Lit.int .i64 p).wf=true:=EL (h.key ho)
theorem KX.Fj (h:KX w m H S U q A) (_ho:S.O p=some o):w.cell? ⟨H.kb,4,none⟩=some (.map (some H.gm))∧w.cell? ⟨H.kb,2,none⟩=some (wp H.f):=⟨h.c4,h.c2⟩
theorem KN.Bz (h:KN w m H S q A) (ho:S.O p=some o) (hq:q≤200) (h1:p≠1) (code:Int) :
 Calls Tryz.prog 64 #[wp H.kb,.int .i64 p,.int .i64 code] w fun y w'=>y=.returned .nilIface∧∃A',KN w' m H (df S p o code) q A'∧Stp w w' A A':=by
 have hj:=h.1.qh ho
 have sw:=h.1.mlt ho
 have c3:=h.1.c3
 have hr:ay S.P p=true:=by rw [←h.2.run p,ho];rfl
 have hE0:jC S.P p=0:=by unfold jC;rw [hr,if_neg (by simp),if_neg h1]
 have hX:Calls Tryz.prog 158 #[wp H.t,.int .i64 p,.int .i64 code] w fun y w'=>y=.returned .nilIface∧(w'.cell? ⟨H.kb,4,none⟩=some (.map (some H.gm))∧w'.cell? ⟨H.kb,2,none⟩=some (wp H.f))∧(Instr.lookup 104 (.map (some H.gm)) (.int .i64 p) false).run Tryz.prog w'.drew=.ok (wp (H.hs o.j)) w'.drew∧
  Calls Tryz.prog 159 #[wp (H.hs o.j),wp H.f] w'.drew fun y w2=>y=.returned (.tuple #[])∧(w2.cell? ⟨H.kb,4,none⟩=some (.map (some H.gm))∧w2.cell? ⟨H.kb,2,none⟩=some (wp H.f))∧∃w3,(∀ty,(Builtin.delete_ #[104,3] ty #[.map (some H.gm),.int .i64 p]).run Tryz.prog w2=.ok (.tuple #[]) w3)∧∃A',KN w3 m H (df S p o code) q A'∧Stp w w3 A A':=by
  refine (h.1.Ty p code (h.1.SB ho)).mono ?_
  rintro y w1 ⟨rfl,A1,k1,st1⟩
  rw [if_pos hE0] at k1
  refine ⟨by rw [hE0];rfl,k1.Fj (p:=p) (o:=o) ho,(k1.below (bG w1)).vU (p:=p) (o:=o) ho,((k1.below (bG w1)).clear (p:=p) (o:=o) ho hq).mono ?_⟩
  rintro y w2 ⟨rfl,A2,k2,st2⟩
  obtain ⟨w3,hrun,A3,k3,vI⟩:=k2.drop (p:=p) (h.1.SB ho)
  have st:Stp w w3 A A3:=(st1.trans (Stp.base (V:=w1.drew) rfl rfl rfl rfl st2)).trans vI
  have hz:(ai true S.D (ax S o.j) 8).2=bE:=by
   have hl8:(ai true S.D (ax S o.j) 8).2.length=8:=by rw [(gy true S.D (ax S o.j) 8).1];exact h.1.sJ _
   refine Nv hl8 (KA _ (h.1.sJ _)) (fun x hx=>(k2.inv.tab _ ?_).2 x hx)
   show _∈S.Ts.set o.j _
   exact List.mem_set hj _
  have e:((((S.procs (dz S.P p code)).space o.j kL S.W).files (ai true S.D (ax S o.j) 8).1 o.j (ai true S.D (ax S o.j) 8).2)).drop p=df S p o code:=by rw [hz];rfl
  have k3':KX w3 m H (df S p o code) (jM S) q A3:=by rw [←e];exact k3
  refine ⟨rfl,k2.Fj (p:=p) (o:=o) ho,w3,hrun,A3,k3'.toN (h.2.ends ho hj h.1.len (fun p' o' ho' ej=>h.1.inj ho' ho ej) code) (fun p' o' ho' k hk=>?_),st⟩
  have hO:p'≠p∧S.O p'=some o':=by
   have z:jU S.O p p'=some o':=ho'
   unfold jU at z
   split at z
   ·cases z
   ·rename_i y;exact ⟨y,z⟩
  have ej:o'.j≠o.j:=fun z=>hO.1 (h.1.inj hO.2 ho z)
  have e1:ax (df S p o code) o'.j=if o'.j=o.j then bE else ax S o'.j:=fo (S:=(S.procs (dz S.P p code)).space o.j kL S.W) hj (ai true S.D (ax S o.j) 8).1 bE o'.j
  have e2:aK (df S p o code) o'.j=if o'.j=o.j then kL else aK S o'.j:=dM (S:=S.procs (dz S.P p code)) (by show o.j<S.Ms.length;omega) kL S.W o'.j
  unfold jM
  rw [e1,e2,if_neg ej,if_neg ej]
 generalize df S p o code=S2 at *
 clear h ho hj sw hr hE0
 go_enter Tryz.func64,Tryz.ntmps64
 go_upto_region 4 with (go_at_call 158;refine hX.mono ?_;rintro e w1 ⟨rfl,c0,l0,hC⟩)
 clear hX c3
 go_region_held3 (fun w'=>w'.cell? ⟨H.kb,4,none⟩=some (.map (some H.gm))∧w'.cell? ⟨H.kb,2,none⟩=some (wp H.f)) (first|exact c0|exact c1) (first
  |(go_at_call 159;refine hC.mono ?_;rintro e w2 ⟨rfl,c1,w3,hrun,hR⟩))
 all_goals
  clear c0 hC l0
  obtain ⟨c4,c5⟩:=c1
  go_wp2_with (at_delete;refine lG rfl _ _ 104 3 rfl _ _ _ w3 rfl rfl hrun ?_)
  go_ret
  exact ⟨rfl,hR⟩
theorem KN.RJ (h:KN w m H S q A) (ho:S.O 1=some o) (code:Int) :
 Calls Tryz.prog 64 #[wp H.kb,.int .i64 1,.int .i64 code] w fun y w'=>y=.returned (eZ 6)∧∃A',KN w' m H S q A'∧Stp w w' A A':=by
 have c3:=h.1.c3
 have hr:ay S.P 1=true:=by rw [←h.2.run 1,ho];rfl
 have hE0:jC S.P 1=6:=by unfold jC;rw [hr,if_neg (by simp),if_pos rfl]
 have hX:Calls Tryz.prog 158 #[wp H.t,.int .i64 1,.int .i64 code] w fun y w'=>y=.returned (eZ 6)∧∃A',KN w' m H S q A'∧Stp w w' A A':=by
  refine (h.1.Ty 1 code (h.1.SB ho)).mono ?_
  rintro y w1 ⟨rfl,A1,k1,st1⟩
  rw [if_neg (by rw [hE0];omega)] at k1
  exact ⟨by rw [hE0,az (by omega)],A1,⟨k1,h.2⟩,st1⟩
 clear h ho hr hE0
 go_enter Tryz.func64,Tryz.ntmps64
 go_wp2_with (go_at_call 158;refine hX.mono ?_;rintro e w1 ⟨rfl,hR⟩)
 go_ret
 exact ⟨rfl,hR⟩
def wz (p:Int):Int:=if p=1 then 6 else 0
noncomputable def oz (S:KS) (p:Int) (o:Ow) (code:Int):KS:=if p=1 then S else df S p o code
theorem KN.RL (h:KN w m H S q A) (ho:S.O p=some o) (hq:q≤200) (code:Int) :
 Calls Tryz.prog 64 #[wp H.kb,.int .i64 p,.int .i64 code] w fun y w'=>y=.returned (aH (wz p))∧∃A',KN w' m H (oz S p o code) q A'∧Stp w w' A A':=by
 unfold wz oz
 by_cases h1:p=1
 ·subst h1
  rw [if_pos rfl,if_pos rfl,az (by omega)]
  exact h.RJ ho code
 ·rw [if_neg h1,if_neg h1,aC]
  exact h.Bz ho hq h1 code
theorem KN.DF (h:KN w m H S q A) (ho:S.O p=some o) (hq:q≤200) (code:Int) :
 Calls Tryz.prog 20 #[wp H.kb,.int .i64 p,.int .i64 code] w fun y w'=>y=.returned (aH (wz p))∧∃A',KN w' m H (oz S p o code) q A'∧Stp w w' A A':=by
 have hF:=h.1.aB ho
 have hE:=h.RL ho hq code
 generalize oz S p o code=S2 at *
 generalize wz p=E at *
 clear h ho
 go_enter Tryz.func20,Tryz.ntmps20
 go_wp2_with (first
  |(go_at_call 51;refine hF.mono ?_;rintro e w1 ⟨rfl,hw⟩;subst w1)
  |(go_at_call 64;refine hE.mono ?_;rintro e w1 ⟨rfl,hR⟩))
 go_ret
 exact ⟨rfl,hR⟩
def jF (P:Ps) (n:Int) (f:Int→Bool):Ps:=qV P n (fun p=>{ p with wt:=f })
def AA (P:Ps) (n:Int):Ps:=jF P n eB
theorem KN.take (h:KN w m H S q A) (hk:H.ok=true) (n:Int) (hn:(Lit.int .i64 n).wf=true):Calls Tryz.prog 75 #[wp H.t,.int .i64 n] w fun y w'=>y=.returned (.int .i64 (aY S.P n))∧∃A',KN w' m H (S.procs (fJ S.P n)) q A'∧Stp w w' A A':=by
 refine (h.1.Xc hk n hn).mono ?_
 rintro y w1 ⟨rfl,A1,k1,st1⟩
 exact ⟨rfl,A1,k1.AB h.2 (fun x=>JM _ _ _),st1⟩
theorem KN.Ed (h:KN w m H S q A) (hk:H.ok=true) (ho:S.O p=some o) (hq:q≤200) (h1:p≠1) (hs:aY S.P p≠0) (XL:aY S.P p≤8) :
 Calls Tryz.prog 26 #[wp H.kb,.int .i64 p] w fun y w'=>y=.returned (.tuple #[.bool true,.nilIface])∧∃A',KN w' m H (df (S.procs (fJ S.P p)) p o (100+aY S.P p)) q A'∧Stp w w' A A':=by
 have hF:=h.1.aB ho
 have c3:=h.1.c3
 have hT:Calls Tryz.prog 75 #[wp H.t,.int .i64 p] w fun y w'=>y=.returned (.int .i64 (aY S.P p))∧Calls Tryz.prog 64 #[wp H.kb,.int .i64 p,.int .i64 (100+aY S.P p)] w' fun y w2=>y=.returned .nilIface∧∃A',KN w2 m H (df (S.procs (fJ S.P p)) p o (100+aY S.P p)) q A'∧Stp w w2 A A':=by
  refine (h.take hk p (h.1.SB ho)).mono ?_
  rintro y w1 ⟨rfl,A1,k1,st1⟩
  refine ⟨rfl,(k1.Bz (o:=o) ho hq h1 _).mono ?_⟩
  rintro y w2 ⟨rfl,A2,k2,st2⟩
  exact ⟨rfl,A2,k2,st1.trans st2⟩
 have hs0:0≤aY S.P p:=by
  unfold aY
  split
  ·omega
  ·cases hf:sigs.find? (Pw S.P p) with
   |none=>simp
   |some x=>have:=List.mem_of_find?_eq_some hf;simp [sigs] at this;simp;omega
 generalize df (S.procs (fJ S.P p)) p o (100+aY S.P p)=S2 at *
 have hw:IntKind.i64.wrap (100+aY S.P p)=100+aY S.P p:=by rw [IntKind.wrap_i64];omega
 have hw2:wrap64 (100+aY S.P p)=100+aY S.P p:=by unfold wrap64;omega
 generalize aY S.P p=X at *
 have hne:(X != 0)=true:=by simpa using hs
 have hn1:(p != 1)=true:=by simpa using h1
 clear h ho XL hs0
 go_enter Tryz.func26,Tryz.ntmps26
 go_wp2_with (first
  |(go_at_call 51;refine hF.mono ?_;rintro e w1 ⟨rfl,hw⟩;subst w1)
  |(go_at_call 75;refine hT.mono ?_;rintro e w1 ⟨rfl,hE⟩))
 clear hT hF c3
 go_loopg [8] 1 (fun _ s8 wr=>s8=.int .i64 X∧wr=w1)
 case atStart=>exact ⟨rfl,rfl⟩
 case round=>
  obtain ⟨rfl,rfl⟩:=hrel
  go_wp2_with (go_at_call 64;refine hE.mono ?_;rintro e w2 ⟨rfl,hR⟩)
  go_ret2
  exact ⟨rfl,hR⟩
theorem KN.Ee (h:KN w m H S q A) (hk:H.ok=true) (ho:S.O p=some o) (hs:aY S.P p=0) :
 Calls Tryz.prog 26 #[wp H.kb,.int .i64 p] w fun y w'=>y=.returned (.tuple #[.bool false,.nilIface])∧∃A',KN w' m H S q A'∧Stp w w' A A':=by
 have hF:=h.1.aB ho
 have c3:=h.1.c3
 have hT:=h.take hk p (h.1.SB ho)
 have e:fJ S.P p=S.P:=by unfold fJ;rw [if_pos hs]
 have e2:S.procs S.P=S:=rfl
 rw [hs,e,e2] at hT
 clear h ho hs e e2
 go_enter Tryz.func26,Tryz.ntmps26
 go_wp2_with (first
  |(go_at_call 51;refine hF.mono ?_;rintro e w1 ⟨rfl,hw⟩;subst w1)
  |(go_at_call 75;refine hT.mono ?_;rintro e w1 ⟨rfl,hR⟩))
 clear hT hF c3
 go_loopg [8] 1 (fun _ s8 wr=>s8=.int .i64 0∧wr=w1)
 case atStart=>exact ⟨rfl,rfl⟩
 case round=>
  obtain ⟨rfl,rfl⟩:=hrel
  go_wp2_with fail
  go_ret2
  exact ⟨rfl,hR⟩
def Cw (f:Int→Bool):Nat:=(sigs.filter f).length
theorem yZ {P:Ps}{n:Int}{f:Int→Bool}(hr:ay P n=true):aY (jF P n f) n=(sigs.find? f).getD 0:=by
 unfold aY
 have h1:ay (jF P n f) n=true:=by rw [jF,Bc (by intro q;rfl)];exact hr
 rw [h1,if_neg (by simp)]
 obtain ⟨q,hq,_⟩:=bY.1 hr
 have:Pw (jF P n f) n=f:=by unfold Pw jF;rw [MW hq];rfl
 rw [this]
theorem Jw {P:Ps}{n:Int}{f:Int→Bool}(hr:ay P n=true) (h0:(sigs.find? f).getD 0≠0):fJ (jF P n f) n=jF P n (gq f ((sigs.find? f).getD 0) false):=by
 unfold fJ
 rw [yZ hr,if_neg h0]
 unfold jF
 rw [UD]
theorem K9 {f:Int→Bool}{x:Int}(h:sigs.find? f=some x):Cw (gq f x false)+1=Cw f:=by
 have hx:x∈sigs:=List.mem_of_find?_eq_some h
 have hf:f x=true:=List.find?_some h
 have hnd:sigs.Nodup:=by decide
 unfold Cw
 have:∀(l:List Int),l.Nodup→x∈l→(l.filter (gq f x false)).length+1=(l.filter f).length:=fun l=>by
  induction l with
  |nil=>intro _ h;cases h
  |cons y r ih=>
   intro hn hm
   have hy:=List.nodup_cons.1 hn
   by_cases e:y=x
   ·subst e
    have e1:gq f y false y=false:=by unfold gq;rw [if_pos rfl]
    rw [List.filter_cons_of_neg (by rw [e1];simp),List.filter_cons_of_pos hf,List.length_cons]
    congr 2
    refine List.filter_congr (fun z hz=>?_)
    unfold gq
    rw [if_neg (fun (c:z=y)=>hy.1 (c ▸ hz))]
   ·have e1:gq f x false y=f y:=by unfold gq;rw [if_neg e]
    have:=ih hy.2 (by rcases List.mem_cons.1 hm with z|z;exact absurd z.symm e;exact z)
    rw [List.filter_cons,List.filter_cons,e1]
    split
    ·simp only [List.length_cons];omega
    ·exact this
 exact this sigs hnd hx
theorem KN.FC (h:KN w m H S q A) (hk:H.ok=true) (ho:S.O 1=some o) :
 Calls Tryz.prog 26 #[wp H.kb,.int .i64 1] w fun y w'=>y=.returned (.tuple #[.bool false,.nilIface])∧∃A',KN w' m H (S.procs (AA S.P 1)) q A'∧Stp w w' A A':=by
 have hF:=h.1.aB ho
 have hr:ay S.P 1=true:=by rw [←h.2.run 1,ho];rfl
 have hok:∀f,nU (jF S.P 1 f)→sigs.find? f=none→f=eB:=fun f jk hf=>by
  funext s
  show f s=false
  by_cases e:f s=true
  ·obtain ⟨q,hq,_⟩:=bY.1 hr
   have:=jk.wt 1 _ (by unfold jF;exact MW hq _) s e
   have hm:s∈sigs:=by simp [sigs];omega
   have:=List.find?_eq_none.1 hf s hm
   exact absurd e this
  ·simpa using e
 have hstep:∀(V:World) (f:Int→Bool) (A':Nat→Prop),KN V m H (S.procs (jF S.P 1 f)) q A'→Stp w V A A'→Calls Tryz.prog 75 #[wp H.t,.int .i64 1] V fun y w'=>∃x,y=.returned (.int .i64 x)∧((x=0∧(∃A',KN w' m H (S.procs (AA S.P 1)) q A'∧Stp w w' A A'))∨(x≠0∧∃g,Cw g+1=Cw f∧∃A',KN w' m H (S.procs (jF S.P 1 g)) q A'∧Stp w w' A A')):=fun V f A' k st=>by
  refine (k.take hk 1 (by kernel_rfl)).mono ?_
  rintro y w1 ⟨rfl,A1,k1,st1⟩
  have e1:aY (S.procs (jF S.P 1 f)).P 1=(sigs.find? f).getD 0:=yZ hr
  refine ⟨_,rfl,?_⟩
  rw [e1]
  cases hf:sigs.find? f with
  |none=>
   left
   have e2:fJ (S.procs (jF S.P 1 f)).P 1=jF S.P 1 f:=by
    unfold fJ
    rw [e1,hf];rfl
   rw [e2] at k1
   obtain rfl:=hok f k1.1.PD hf
   exact ⟨rfl,A1,k1,st.trans st1⟩
  |some x=>
   right
   have hx:x∈sigs:=List.mem_of_find?_eq_some hf
   have hx0:x≠0:=by simp [sigs] at hx;omega
   have e2:fJ (S.procs (jF S.P 1 f)).P 1=jF S.P 1 (gq f x false):=by
    have:=Jw (P:=S.P) (n:=1) (f:=f) hr (by rw [hf];exact hx0)
    rw [hf] at this
    exact this
   rw [e2] at k1
   exact ⟨hx0,_,K9 hf,A1,k1,st.trans st1⟩
 obtain ⟨q1,hq1,_⟩:=bY.1 hr
 have e0:jF S.P 1 q1.wt=S.P:=by
  funext i
  unfold jF qV
  split
  ·rename_i z;subst z;rw [hq1];rfl
  ·rfl
 have h0:KN w m H (S.procs (jF S.P 1 q1.wt)) q A:=by rw [e0];exact h
 have hT:=hstep w q1.wt A h0 (Stp.refl _ _)
 have c3:=h.1.c3
 have HS:Aside _:=hstep
 have hc3:∀(V:World) (f:Int→Bool) (A':Nat→Prop),KN V m H (S.procs (jF S.P 1 f)) q A'→V.cell? ⟨H.kb,3,none⟩=some (wp H.t):=fun V f A' k=>k.1.c3
 have HC3:Aside _:=hc3
 generalize S.procs (AA S.P 1)=S2 at *
 clear h ho hr hok hstep e0 h0 hq1 hc3
 go_enter Tryz.func26,Tryz.ntmps26
 go_wp2_with (first
  |(go_at_call 51;refine hF.mono ?_;rintro e w1 ⟨rfl,hw⟩;subst w1)
  |(go_at_call 75;refine hT.mono ?_;rintro e w1 ⟨x,rfl,hR⟩))
 have HR:Aside _:=hR
 clear hT hF c3 hR
 go_loopg [8] (Cw q1.wt) (fun k s8 wr=>∃x:Int,s8=.int .i64 x∧Aside ((x=0∧(∃A',KN wr m H S2 q A'∧Stp w wr A A'))∨(x≠0∧∃g,Cw g+1≤k∧∃A',KN wr m H (S.procs (jF S.P 1 g)) q A'∧Stp w wr A A')))
 case atStart=>
  refine ⟨x,rfl,?_⟩
  rcases HR.out with z|⟨z0,g,zg,z⟩
  ·exact .inl z
  ·exact .inr ⟨z0,g,by omega,z⟩
 case round=>
  clear HR
  obtain ⟨x9,rfl,hA⟩:=hrel
  by_cases hx:x9=0
  ·subst hx
   go_wp2_with fail
   go_ret2
   refine ⟨rfl,?_⟩
   rcases hA.out with z|z
   ·exact z.2
   ·exact absurd rfl z.1
  ·have hx':(x9 != 0)=true:=by simpa using hx
   obtain ⟨g,hg,A9,k9,VW⟩:∃g,Cw g+1≤gk∧∃A',KN wr m H (S.procs (jF S.P 1 g)) q A'∧Stp w wr A A':=by
    rcases hA.out with z|z
    ·exact absurd z.1 hx
    ·exact z.2
   have c3:=HC3.out wr g A9 k9
   have hT:=HS.out wr g A9 k9 VW
   clear hA k9 VW
   go_wp2_with (go_at_call 75;refine hT.mono ?_;rintro e w1 ⟨x,rfl,hR⟩)
   have HR:Aside _:=hR
   clear hR hT
   go_roundg (gk-1)
   case measure=>omega
   case rel=>
    refine ⟨x,by rfl,?_⟩
    rcases HR.out with z|⟨z0,g',zg,z⟩
    ·exact .inl z
    ·exact .inr ⟨z0,g',by omega,z⟩
end
def KH.add (H:KH) (j s t b:Nat):KH:={ H with hs:=fun i=>if i=j then b else H.hs i,sp:=fun i=>if i=j then s else H.sp i,tb:=fun i=>if i=j then t else H.tb i }
def KS.born (S:KS) (j:Nat):KS:={ S with D:=iO S.D (ax S j),Ts:=S.Ts ++ [ax S j],Ms:=S.Ms ++ [aK S j] }
section
variable {w w' w1 w2:World}{m:Int}{H:KH}{S:KS}{U:Nat→Nat→Int}{q:Nat}{G:KG}{A:Nat→Prop}{p:Int}{o:Ow}
theorem Q7 (D:DS) (N:Ns):(iO D N).nx=D.nx:=by
 unfold iO
 have:∀(l:Ns) (D:DS),(l.foldl (fun D x=>if 0<x.1 then iA D x.1 else D) D).nx=D.nx:=fun l=>by
  induction l with
  |nil=>intro D;rfl
  |cons x r ih=>
   intro D
   rw [List.foldl_cons,ih]
   split<;>rfl
 exact this N D
theorem KM.wy (h:KM w m H S U q G) (hq:q≤90) (ho:S.O p=some o) (hj:o.j<G.L.length) {c' gc':Nat}(t1:CF G.E w G.Av G.L w1 S.W (G.L ++ [(c',gc',G.L[o.j].2.2)])) (hc':w.heap.size≤c') (hc1:c'<w1.heap.size) :
 Calls Tryz.prog 140 #[wp H.f,wp (H.tb o.j)] w1 fun y w2=>∃t',y=.returned (wp t')∧Hd w2 (H.hs o.j) (H.sp o.j) (H.tb o.j) (U o.j) o.m o.dO∧
  ∃G',KM (w2.alloc (.cells (hcs c' t' (U o.j) o.m o.dO) 115)) m (H.add S.Ts.length c' t' w2.heap.size) (S.born o.j) U (q+1) G'∧G'.κ w2.heap.size=5∧(∀p' o',S.O p'=some o'→H.hs o'.j<w2.heap.size)∧Stp w (w2.alloc (.cells (hcs c' t' (U o.j) o.m o.dO) 115)) (fun i=>G.κ i≠0) (fun i=>G'.κ i≠0):=by
 obtain ⟨Av1,a1,f1,Ws⟩:=t1
 have Ck:Wt (fun i=>G.κ i=1) w w1:=⟨f1.os,f1.tape,f1.output,f1.size,fun i hi hn=>f1.block i hi (fun ho=>hn (h.k1 i ho))⟩
 have k1:=h.kept (X:=1) ⟨by omega,by omega⟩ Ck
 have VL:o.j<S.Ts.length:=by rw [←h.Ll];exact hj
 have hjb:o.j<G.bs.length:=by rw [h.Lb];exact VL
 have ER:=h.few
 have hF:=(k1.kd (by omega)).fork (by omega) hjb
 rw [h.tb _ hjb] at hF
 refine hF.mono ?_
 rintro y w2 ⟨Ad',rfl,kd2,st2⟩
 have hPj:G.L[o.j].2.2=aK S o.j:=by
  rw [vT (by rw [h.len];exact VL)]
  have:S.Ms=G.L.map (fun x=>x.2.2):=h.ms.symm
  simp only [this,List.getElem_map]
 have X4:∀i,G.Ad i→i<w.heap.size:=fun i hi=>h.yI i (by rw [h.k2 i hi];omega)
 -- what neither turned
 have hb:∀i c,G.κ i=c→c≠0→c≠1→c≠2→w2.heap[i]? = w.heap[i]? := fun i c e h0 h1 h2=>by
  have hi:i<w.heap.size:=h.yI i (by omega)
  rw [st2.wt.block i (Nat.lt_of_lt_of_le hi f1.size) (fun z=>h2 (by rw [←e];exact h.k2 i z))]
  exact Ck.block i hi (fun z=>h1 (by rw [←e];exact z))
 have hz:∀i,G.κ i=0→i<w.heap.size→w2.heap[i]? = w.heap[i]? := fun i e hi=>by
  rw [st2.wt.block i (Nat.lt_of_lt_of_le hi f1.size) (fun z=>by have:=h.k2 i z;omega)]
  exact Ck.block i hi (fun z=>by omega)
 have hsz:w.heap.size≤w2.heap.size:=Nat.le_trans f1.size st2.wt.size
 have hd2:∀p' o',S.O p'=some o'→Hd w2 (H.hs o'.j) (H.sp o'.j) (H.tb o'.j) (U o'.j) o'.m o'.dO:=fun p' o' ho'=>(h.hold p' o' ho').keep (hb _ 5 (h.k5 p' o' ho') (by omega) (by omega) (by omega))
 have a2:Al G.E w2 S.W Av1 (G.L ++ [(c',gc',G.L[o.j].2.2)]):=by
  have hno:∀i,i<w1.heap.size→¬G.Ad i→w2.heap[i]? = w1.heap[i]? := fun i hi hn=>st2.wt.block i hi hn
  refine a1.keep (fun i hi=>hno i (a1.Ac hi) (fun z=>?_)) (hno _ a1.st.blt (fun z=>?_)) (hno _ a1.st.mlt (fun z=>?_)) (fun i hi=>hno _ (a1.sp i hi).sp.lt (fun z=>?_))
  ·have:=h.k1 i (Ws i (X4 i z) hi)
   have:=h.k2 i z;omega
  ·have:=h.k2 _ z;have:=h.kE;omega
  ·have:=h.k2 _ z;have:=h.kB;omega
  ·by_cases e:i<G.L.length
   ·rw [List.getElem_append_left e] at z
    rw [h.sp i e] at z
    have:=h.k2 _ z;have:=h.ks i (by rw [←h.Ll];exact e);omega
   ·have e2:i=G.L.length:=by simp at hi;omega
    subst e2
    simp only [List.getElem_concat_length] at z
    have:=X4 _ z;omega
 let κ':Nat→Nat:=fun i=>if i<w.heap.size then G.κ i else if i=c' then 6 else if i=w2.heap.size then 5 else if i<w1.heap.size then 1 else if i<w2.heap.size then 2 else 0
 have ko:∀ {i c},c≠0→G.κ i=c→κ' i=c:=fun {i c} hc e=>by
  show (if i<w.heap.size then G.κ i else _)=c
  rw [if_pos (h.yI i (by omega))];exact e
 have kz:∀ {i},i<w.heap.size→G.κ i=0→κ' i=0:=fun {i} hi e=>by
  show (if i<w.heap.size then G.κ i else _)=0
  rw [if_pos hi];exact e
 have hw2:w1.heap.size≤w2.heap.size:=st2.wt.size
 have adA:c'≠w2.heap.size:=by omega
 have bA:Below w2.heap.size w2 (w2.alloc (.cells (hcs c' w1.heap.size (U o.j) o.m o.dO) 115)):=(Below.refl _ w2).alloc (Nat.le_refl _) _
 have hA3:(w2.alloc (.cells (hcs c' w1.heap.size (U o.j) o.m o.dO) 115)).heap.size=w2.heap.size+1:=by show (w2.heap.push _).size=_;rw [Array.size_push]
 obtain ⟨c,qj⟩:=h.qj
 obtain ⟨z,hm⟩:=h.map
 have hlen:S.Ts.length=G.L.length:=h.Ll.symm
 have hLc:(G.L ++ [(c',gc',G.L[o.j].2.2)]).length=S.Ts.length+1:=by simp [hlen]
 have kc':κ' c'=6:=by
  show (if c'<w.heap.size then _ else if c'=c' then 6 else _)=6
  rw [if_neg (by omega),if_pos rfl]
 have kb':κ' w2.heap.size=5:=by
  show (if w2.heap.size<w.heap.size then _ else if w2.heap.size=c' then _ else if w2.heap.size=w2.heap.size then 5 else _)=5
  rw [if_neg (by omega),if_neg (by omega),if_pos rfl]
 have kO:∀p' o',S.O p'=some o'→o'.j≠S.Ts.length:=fun p' o' ho'=>by have:=h.lt p' o' ho';omega
 have hsO:∀p' o',S.O p'=some o'→(H.add S.Ts.length c' w1.heap.size w2.heap.size).hs o'.j=H.hs o'.j:=fun p' o' ho'=>if_neg (kO p' o' ho')
 refine ⟨w1.heap.size,rfl,hd2 p o ho,⟨G.E,Av1,G.L ++ [(c',gc',G.L[o.j].2.2)],G.bs ++ [w1.heap.size],Ad',κ'⟩,?_,kb',fun p' o' ho'=>(hd2 p' o' ho').lt,?_⟩
 ·refine
   { head:=(bA.block _ (lt_of_heap ((hb _ 6 h.kk (by omega) (by omega) (by omega)).trans h.head))).trans ((hb _ 6 h.kk (by omega) (by omega) (by omega)).trans h.head)
     eb:=h.eb
     en:=h.en
     al:=a2.below bA
     ms:=?_
     sp:=fun x hx=>?_
     kd:=?_
     tb:=fun x hx=>?_
     qj:=⟨c,⟨(qj.toQM.keep (hb _ 6 h.kt (by omega) (by omega) (by omega)) (hb _ 3 h.k3 (by omega) (by omega) (by omega))).below bA,qj.ok,qj.dj⟩⟩
     map:=⟨z,?_⟩
     hold:=fun p' o' ho'=>?_
     hinj:=fun p1 o1 p2 o2 e1 e2 e3=>?_
     len:=?_
     lt:=fun p' o' ho'=>?_
     key:=h.key
     tab:=(h.tab.keep (hz _ h.LK h.tab.lt)).keep (bA.block _ (h.tab.keep (hz _ h.LK h.tab.lt)).lt)
     nx:=?_
     few:=?_
     k1:=fun i hi=>?_
     k2:=fun i hi=>?_
     k3:=ko (by omega) h.k3
     k4:=ko (by omega) h.k4
     k5:=fun p' o' ho'=>?_
     kk:=ko (by omega) h.kk
     kE:=ko (by omega) h.kE
     kB:=ko (by omega) h.kB
     kt:=ko (by omega) h.kt
     ks:=fun x hx=>?_
     km:=kz h.pX h.km
     ke:=kz h.p8 h.ke
     LK:=kz h.jJ h.LK
     yI:=fun i hi=>?_ }
  ·show (G.L ++ [(c',gc',G.L[o.j].2.2)]).map _=S.Ms ++ [aK S o.j]
   rw [List.map_append,h.ms,List.map_cons,List.map_nil,hPj]
  ·by_cases e:x<G.L.length
   ·have:(G.L ++ [(c',gc',G.L[o.j].2.2)])[x]=G.L[x]:=List.getElem_append_left e
    simp only [this]
    rw [h.sp x e]
    show _=if x=S.Ts.length then c' else H.sp x
    rw [if_neg (by omega)]
   ·have e2:x=G.L.length:=by simp at hx;omega
    subst e2
    simp only [List.getElem_concat_length]
    show _=if G.L.length=S.Ts.length then c' else _
    rw [if_pos hlen.symm]
  ·have k3:=(kd2.below bA).more (k':=2*(q+1)) (by omega)
   have e:iO S.D (S.Ts[o.j]'VL)=(S.born o.j).D:=by show _=iO S.D (ax S o.j);rw [iD VL]
   have e2:S.Ts ++ [S.Ts[o.j]'VL]=(S.born o.j).Ts:=by show _=S.Ts ++ [ax S o.j];rw [iD VL]
   rw [←e,←e2]
   exact k3
  ·by_cases e:x<G.bs.length
   ·have:(G.bs ++ [w1.heap.size])[x]=G.bs[x]:=List.getElem_append_left e
    simp only [this]
    rw [h.tb x e]
    show _=if x=S.Ts.length then _ else H.tb x
    rw [if_neg (by have:=h.Lb;omega)]
   ·have e2:x=G.bs.length:=by simp at hx;omega
    subst e2
    simp only [List.getElem_concat_length]
    show _=if G.bs.length=S.Ts.length then w1.heap.size else _
    rw [if_pos h.Lb]
  ·have e:(fun x=>(S.O x).map (fun o=>wp ((H.add S.Ts.length c' w1.heap.size w2.heap.size).hs o.j)))=fun x=>(S.O x).map (fun o=>wp (H.hs o.j)):=by
    funext x
    cases hx:S.O x with
    |none=>rfl
    |some o'=>show some (wp ((H.add S.Ts.length c' w1.heap.size w2.heap.size).hs o'.j))=some (wp (H.hs o'.j));rw [hsO x o' hx]
   show aF _ H.gm z (fun x=>(S.O x).map (fun o=>wp ((H.add S.Ts.length c' w1.heap.size w2.heap.size).hs o.j)))
   rw [e]
   have h4:=hm.keep (hb _ 4 h.k4 (by omega) (by omega) (by omega))
   exact h4.keep (bA.block _ h4.lt)
  ·have e1:=hsO p' o' ho'
   have e2:(H.add S.Ts.length c' w1.heap.size w2.heap.size).sp o'.j=H.sp o'.j:=if_neg (kO p' o' ho')
   have e3:(H.add S.Ts.length c' w1.heap.size w2.heap.size).tb o'.j=H.tb o'.j:=if_neg (kO p' o' ho')
   rw [e1,e2,e3]
   exact (hd2 p' o' ho').below bA
  ·rw [hsO p1 o1 e1,hsO p2 o2 e2] at e3
   exact h.hinj p1 o1 p2 o2 e1 e2 e3
  ·show (S.Ms ++ [_]).length=(S.Ts ++ [_]).length
   rw [List.length_append,List.length_append,h.len];rfl
  ·show o'.j<(S.Ts ++ [_]).length
   rw [List.length_append];have:=h.lt p' o' ho';omega
  ·show (iO S.D (ax S o.j)).nx≤_
   rw [Q7];have:=h.nx;omega
  ·show (S.Ts ++ [_]).length≤_
   rw [List.length_append];show S.Ts.length+1≤_;omega
  ·have hi':=a1.Ac hi
   by_cases e:i<w.heap.size
   ·exact ko (by omega) (h.k1 i (Ws i e hi))
   ·have hne:i≠c':=fun ec=>by
     subst ec
     have hLl:G.L.length<(G.L ++ [(i,gc',G.L[o.j].2.2)]).length:=by simp
     have hs:=(a1.sp G.L.length hLl)
     have e9:(G.L ++ [(i,gc',G.L[o.j].2.2)])[G.L.length]=(i,gc',G.L[o.j].2.2):=by simp
     rcases hi with hi|⟨x,hx,hxe⟩
     ·have:=hs.kN
      rw [e9] at this
      exact this hi
     ·obtain ⟨j9,hj9,rfl⟩:=List.mem_iff_getElem.1 hx
      have h1:=hs.sp.head
      rw [e9] at h1
      obtain ⟨es,cl,hm9⟩:=(a1.sp j9 hj9).sp.map.isMap
      have:w1.heap[i]? = some (.map es cl):=by rw [hxe];exact hm9
      simp only at h1
      rw [this] at h1;cases h1
    show (if i<w.heap.size then _ else if i=c' then _ else if i=w2.heap.size then _ else if i<w1.heap.size then 1 else _)=1
    rw [if_neg e,if_neg hne,if_neg (by omega),if_pos hi']
  ·have hi':=kd2.lt i hi
   rcases st2.own i hi with z|z
   ·exact ko (by omega) (h.k2 i z)
   ·show (if i<w.heap.size then _ else if i=c' then _ else if i=w2.heap.size then _ else if i<w1.heap.size then _ else if i<w2.heap.size then 2 else _)=2
    rw [if_neg (by have:=f1.size;omega),if_neg (by omega),if_neg (by omega),if_neg (by omega),if_pos hi']
  ·rw [hsO p' o' ho']
   exact ko (by omega) (h.k5 p' o' ho')
  ·have hx':x<S.Ts.length+1:=by
    have:x<(S.Ts ++ [ax S o.j]).length:=hx
    simpa using this
   show κ' (if x=S.Ts.length then c' else H.sp x)=6
   by_cases e:x=S.Ts.length
   ·rw [if_pos e];exact kc'
   ·rw [if_neg e];exact ko (by omega) (h.ks x (by omega))
  ·rw [hA3]
   have hi:κ' i≠0:=hi
   by_cases e:i<w.heap.size
   ·omega
   ·by_cases e1:i=c'
    ·omega
    ·by_cases e2:i=w2.heap.size
     ·omega
     ·have:κ' i=if i<w1.heap.size then 1 else if i<w2.heap.size then 2 else 0:=by
       show (if i<w.heap.size then _ else if i=c' then _ else if i=w2.heap.size then _ else if i<w1.heap.size then 1 else if i<w2.heap.size then 2 else 0)=_
       rw [if_neg e,if_neg e1,if_neg e2]
      rw [this] at hi
      split at hi
      ·omega
      ·split at hi
       ·omega
       ·exact absurd rfl hi
 ·refine ⟨⟨bA.os.trans (st2.wt.os.trans f1.os),bA.tape.trans (st2.wt.tape.trans f1.tape),bA.output.trans (st2.wt.output.trans f1.output),by rw [hA3];omega,fun i hi hn=>?_⟩,fun i hi=>?_⟩
  ·rw [bA.block i (by omega)]
   exact hz i (by simpa using hn) hi
  ·by_cases e:i<w.heap.size
   ·left
    have hi:κ' i≠0:=hi
    have:κ' i=G.κ i:=if_pos e
    rw [this] at hi;exact hi
   ·exact .inr (by omega)
theorem KM.put (h:KM w m H S U q G) {k:Int}(hk:S.O k=none) (Mh:1≤k∧k≤24) {o':Ow}(hj:o'.j<S.Ts.length) (h5:G.κ (H.hs o'.j)=5) (hfree:∀p o,S.O p=some o→H.hs o.j≠H.hs o'.j) {U':Nat→Int}(hd:Hd w (H.hs o'.j) (H.sp o'.j) (H.tb o'.j) U' o'.m o'.dO) :
 ∃w',(Instr.mapUpdate 104 (.map (some H.gm)) (.int .i64 k) (wp (H.hs o'.j))).run Tryz.prog w=.ok () w'∧∃G',KM w' m H (S.own k o') (fun i=>if i=o'.j then U' else U i) q G'∧Stp w w' (fun i=>G.κ i≠0) (fun i=>G'.κ i≠0):=by
 obtain ⟨z,hm⟩:=h.map
 have hzl:z<maxLen:=by
  have:=(hm.isN).few (B:=24) (by omega) (fun x hx=>by
   rw [Option.isSome_map] at hx
   obtain ⟨o9,h9⟩:=Option.isSome_iff_exists.1 hx
   have:=h.key x o9 h9;omega)
  unfold maxLen;omega
 obtain ⟨w',hrun,hm',g⟩:=hm.put Tryz.underlying104 hzl k (EL Mh) (wp (H.hs o'.j))
 have wt:Wt (fun i=>G.κ i=4) w w':=⟨g.os,g.tape,g.output,g.size,fun i hi hn=>g.block i hi (fun e=>hn (by cases e;exact h.k4))⟩
 have kp:=h.kept (X:=4) ⟨by omega,by omega⟩ wt
 have WO:=h.yI
 have keep:∀ {i c},c≠0→G.κ i=c→tg G.κ 4 w w' i=c:=fun hc e=>ry WO hc e
 have hO:∀x o9,jI S.O k o' x=some o9→(x=k∧o9=o')∨(x≠k∧S.O x=some o9):=fun x o9 e=>by
  by_cases ex:x=k
  ·rw [ex,dH] at e;exact .inl ⟨ex,(Option.some.inj e).symm⟩
  ·rw [fG ex] at e;exact .inr ⟨ex,e⟩
 refine ⟨w',hrun,⟨G.E,G.Av,G.L,G.bs,G.Ad,tg G.κ 4 w w'⟩,⟨kp.head,h.eb,h.en,kp.al (by omega),h.ms,h.sp,kp.kd (by omega),h.tb,kp.qj (by omega),?_,fun x o9 e=>?_,fun x o1 y o2 e1 e2 e3=>?_,h.len,fun x o9 e=>?_,fun x o9 e=>?_,kp.tab,h.nx,h.few,fun i hi=>keep (by omega) (h.k1 i hi),fun i hi=>keep (by omega) (h.k2 i hi),keep (by omega) h.k3,keep (by omega) h.k4,fun x o9 e=>?_,keep (by omega) h.kk,keep (by omega) h.kE,keep (by omega) h.kB,keep (by omega) h.kt,fun x hx=>keep (by omega) (h.ks x hx),eX h.pX h.km,eX h.p8 h.ke,eX h.jJ h.LK,Cx WO wt.size⟩,vZ wt (by omega)⟩
 ·refine ⟨if ((S.O k).map (fun o=>wp (H.hs o.j))).isSome then z else z+1,?_⟩
  have e:(fun x=>(jI S.O k o' x).map (fun o=>wp (H.hs o.j)))=fun x=>if x=k then some (wp (H.hs o'.j)) else (S.O x).map (fun o=>wp (H.hs o.j)):=by
   funext x
   by_cases ex:x=k
   ·rw [ex,dH,if_pos rfl];rfl
   ·rw [fG ex,if_neg ex]
  show aF w' H.gm (if ((S.O k).map (fun o=>wp (H.hs o.j))).isSome then z else z+1) (fun x=>(jI S.O k o' x).map (fun o=>wp (H.hs o.j)))
  rw [e];exact hm'
 ·rcases hO x o9 e with ⟨rfl,rfl⟩|⟨hne,z9⟩
  ·simp only [if_true]
   exact hd.keep (g.block _ hd.lt (fun e=>by
    have:=h.k4;rw [←Option.some.inj e] at this;omega))
  ·have hne2:o9.j≠o'.j:=fun ej=>hfree x o9 z9 (by rw [ej])
   simp only [if_neg hne2]
   exact kp.hold (by omega) x o9 z9
 ·rcases hO x o1 e1 with ⟨rfl,rfl⟩|⟨hne,z9⟩<;>rcases hO y o2 e2 with ⟨rfl,rfl⟩|⟨hne2,z8⟩
  ·rfl
  ·exact absurd e3.symm (hfree y o2 z8)
  ·exact absurd e3 (hfree x o1 z9)
  ·exact h.hinj x o1 y o2 z9 z8 e3
 ·rcases hO x o9 e with ⟨rfl,rfl⟩|⟨hne,z9⟩
  ·exact hj
  ·exact h.lt x o9 z9
 ·rcases hO x o9 e with ⟨rfl,rfl⟩|⟨hne,z9⟩
  ·exact Mh
  ·exact h.key x o9 z9
 ·rcases hO x o9 e with ⟨rfl,rfl⟩|⟨hne,z9⟩
  ·exact keep (by omega) h5
  ·exact keep (by omega) (h.k5 x o9 z9)
end
section
variable {w w' w1 w2:World}{m:Int}{H:KH}{S:KS}{U:Nat→Nat→Int}{q:Nat}{G:KG}{A:Nat→Prop}{p:Int}{o:Ow}
theorem Hd.nine {b s t:Nat}{U M:Nat→Int}{a:Int}(h:Hd w b s t U M a):w.cell? ⟨b,0,none⟩=some (wp s)∧w.cell? ⟨b,1,none⟩=some (wp t)∧w.cell? ⟨b,2,none⟩=some (.int .i64 (U 0))∧w.cell? ⟨b,3,none⟩=some (.int .i64 (U 1))∧w.cell? ⟨b,4,none⟩=some (.int .i64 (U 2))∧w.cell? ⟨b,5,none⟩=some (.int .i64 (M 0))∧w.cell? ⟨b,6,none⟩=some (.int .i64 (M 1))∧w.cell? ⟨b,7,none⟩=some (.int .i64 (M 2))∧w.cell? ⟨b,8,none⟩=some (.int .i64 a):=
 ⟨h.at 0,h.at 1,h.at 2,h.at 3,h.at 4,h.at 5,h.at 6,h.at 7,h.at 8⟩
def WZ (w:World) (m:Int) (H:KH) (S:KS) (U:Nat→Nat→Int) (q:Nat) (A:Nat→Prop) (o:Ow) (s t b:Nat) (w':World):Prop:=
 ∃G',KM w' m (H.add S.Ts.length s t b) (S.born o.j) U (q+1) G'∧G'.κ b=5∧(∀p' o',S.O p'=some o'→H.hs o'.j<b)∧Hd w' b s t (U o.j) o.m o.dO∧Stp w w' A (fun i=>G'.κ i≠0)
theorem KX.Xt (h:KX w m H S U q A) (ho:S.O p=some o) (hq:q≤90) :
 Calls Tryz.prog 56 #[wp (H.hs o.j),wp H.f] w fun y w'=>∃s t b,y=.returned (wp b)∧WZ w m H S U q A o s t b w':=by
 have c9:=(h.hd ho).nine
 have hV:Calls Tryz.prog 139 #[wp (H.sp o.j)] w.drew fun y w1=>∃s,y=.returned (wp s)∧(w1.cell? ⟨H.hs o.j,0,none⟩=some (wp (H.sp o.j))∧w1.cell? ⟨H.hs o.j,1,none⟩=some (wp (H.tb o.j))∧w1.cell? ⟨H.hs o.j,2,none⟩=some (.int .i64 (U o.j 0))∧w1.cell? ⟨H.hs o.j,3,none⟩=some (.int .i64 (U o.j 1))∧w1.cell? ⟨H.hs o.j,4,none⟩=some (.int .i64 (U o.j 2))∧w1.cell? ⟨H.hs o.j,5,none⟩=some (.int .i64 (o.m 0))∧w1.cell? ⟨H.hs o.j,6,none⟩=some (.int .i64 (o.m 1))∧w1.cell? ⟨H.hs o.j,7,none⟩=some (.int .i64 (o.m 2))∧w1.cell? ⟨H.hs o.j,8,none⟩=some (.int .i64 o.dO))∧
  Calls Tryz.prog 140 #[wp H.f,wp (H.tb o.j)] w1 fun y w2=>∃t,y=.returned (wp t)∧(w2.cell? ⟨H.hs o.j,0,none⟩=some (wp (H.sp o.j))∧w2.cell? ⟨H.hs o.j,1,none⟩=some (wp (H.tb o.j))∧w2.cell? ⟨H.hs o.j,2,none⟩=some (.int .i64 (U o.j 0))∧w2.cell? ⟨H.hs o.j,3,none⟩=some (.int .i64 (U o.j 1))∧w2.cell? ⟨H.hs o.j,4,none⟩=some (.int .i64 (U o.j 2))∧w2.cell? ⟨H.hs o.j,5,none⟩=some (.int .i64 (o.m 0))∧w2.cell? ⟨H.hs o.j,6,none⟩=some (.int .i64 (o.m 1))∧w2.cell? ⟨H.hs o.j,7,none⟩=some (.int .i64 (o.m 2))∧w2.cell? ⟨H.hs o.j,8,none⟩=some (.int .i64 o.dO))∧
   ((w2.alloc (.cells #[wp s,wp t,.int .i64 (U o.j 0),.int .i64 (U o.j 1),.int .i64 (U o.j 2),.int .i64 (o.m 0),.int .i64 (o.m 1),.int .i64 (o.m 2),.int .i64 o.dO] 115)).cell? ⟨H.hs o.j,0,none⟩=some (wp (H.sp o.j))∧(w2.alloc (.cells #[wp s,wp t,.int .i64 (U o.j 0),.int .i64 (U o.j 1),.int .i64 (U o.j 2),.int .i64 (o.m 0),.int .i64 (o.m 1),.int .i64 (o.m 2),.int .i64 o.dO] 115)).cell? ⟨H.hs o.j,1,none⟩=some (wp (H.tb o.j))∧(w2.alloc (.cells #[wp s,wp t,.int .i64 (U o.j 0),.int .i64 (U o.j 1),.int .i64 (U o.j 2),.int .i64 (o.m 0),.int .i64 (o.m 1),.int .i64 (o.m 2),.int .i64 o.dO] 115)).cell? ⟨H.hs o.j,2,none⟩=some (.int .i64 (U o.j 0))∧(w2.alloc (.cells #[wp s,wp t,.int .i64 (U o.j 0),.int .i64 (U o.j 1),.int .i64 (U o.j 2),.int .i64 (o.m 0),.int .i64 (o.m 1),.int .i64 (o.m 2),.int .i64 o.dO] 115)).cell? ⟨H.hs o.j,3,none⟩=some (.int .i64 (U o.j 1))∧(w2.alloc (.cells #[wp s,wp t,.int .i64 (U o.j 0),.int .i64 (U o.j 1),.int .i64 (U o.j 2),.int .i64 (o.m 0),.int .i64 (o.m 1),.int .i64 (o.m 2),.int .i64 o.dO] 115)).cell? ⟨H.hs o.j,4,none⟩=some (.int .i64 (U o.j 2))∧(w2.alloc (.cells #[wp s,wp t,.int .i64 (U o.j 0),.int .i64 (U o.j 1),.int .i64 (U o.j 2),.int .i64 (o.m 0),.int .i64 (o.m 1),.int .i64 (o.m 2),.int .i64 o.dO] 115)).cell? ⟨H.hs o.j,5,none⟩=some (.int .i64 (o.m 0))∧(w2.alloc (.cells #[wp s,wp t,.int .i64 (U o.j 0),.int .i64 (U o.j 1),.int .i64 (U o.j 2),.int .i64 (o.m 0),.int .i64 (o.m 1),.int .i64 (o.m 2),.int .i64 o.dO] 115)).cell? ⟨H.hs o.j,6,none⟩=some (.int .i64 (o.m 1))∧(w2.alloc (.cells #[wp s,wp t,.int .i64 (U o.j 0),.int .i64 (U o.j 1),.int .i64 (U o.j 2),.int .i64 (o.m 0),.int .i64 (o.m 1),.int .i64 (o.m 2),.int .i64 o.dO] 115)).cell? ⟨H.hs o.j,7,none⟩=some (.int .i64 (o.m 2))∧(w2.alloc (.cells #[wp s,wp t,.int .i64 (U o.j 0),.int .i64 (U o.j 1),.int .i64 (U o.j 2),.int .i64 (o.m 0),.int .i64 (o.m 1),.int .i64 (o.m 2),.int .i64 o.dO] 115)).cell? ⟨H.hs o.j,8,none⟩=some (.int .i64 o.dO))∧
   Aside (WZ w m H S U q A o s t w2.heap.size (w2.alloc (.cells #[wp s,wp t,.int .i64 (U o.j 0),.int .i64 (U o.j 1),.int .i64 (U o.j 2),.int .i64 (o.m 0),.int .i64 (o.m 1),.int .i64 (o.m 2),.int .i64 o.dO] 115))):=by
  obtain ⟨G,k,e⟩:=h
  have kd:=k.below (bG w)
  have hl:o.j<G.L.length:=by rw [k.Ll];exact k.lt p o ho
  have ER:=k.few
  have hF:=kd.al.rG (by rw [k.Ll];omega) hl
  rw [k.sp _ hl] at hF
  refine hF.mono ?_
  rintro y w1 ⟨s,rfl,gc,t1,hs⟩
  have hs1:s<w1.heap.size:=by
   obtain ⟨A9,a9,_,_⟩:=t1
   have:=(a9.sp G.L.length (by simp)).sp.lt
   simpa using this
  have hd1:Hd w1 (H.hs o.j) (H.sp o.j) (H.tb o.j) (U o.j) o.m o.dO:=by
   obtain ⟨A9,a9,f9,_⟩:=t1
   exact (kd.hold p o ho).keep (f9.block _ (kd.hold p o ho).lt (fun z=>by have:=kd.k1 _ z;have:=kd.k5 p o ho;omega))
  refine ⟨s,rfl,hd1.nine,(kd.wy hq ho hl t1 hs hs1).mono ?_⟩
  rintro y w2 ⟨t,rfl,hd2,G',k',h5,hlt,st⟩
  refine ⟨t,rfl,hd2.nine,(hd2.below ((Below.refl _ w2).alloc (Nat.le_refl _) _)).nine,G',k',h5,hlt,?_,oZ e (Stp.base (V:=w.drew) rfl rfl rfl rfl st)⟩
  show (w2.heap.push _)[w2.heap.size]? = _
  rw [Array.getElem?_push,if_pos rfl]
 generalize U o.j 0=u0 at *
 generalize U o.j 1=u1 at *
 generalize U o.j 2=u2 at *
 generalize o.m 0=m0 at *
 generalize o.m 1=m1 at *
 generalize o.m 2=m2 at *
 clear h ho
 go_enter Tryz.func56,Tryz.ntmps56
 go_upto_region 1 with fail
 go_region_held3 (fun w'=>w'.cell? ⟨H.hs o.j,0,none⟩=some (wp (H.sp o.j))∧w'.cell? ⟨H.hs o.j,1,none⟩=some (wp (H.tb o.j))∧w'.cell? ⟨H.hs o.j,2,none⟩=some (.int .i64 u0)∧w'.cell? ⟨H.hs o.j,3,none⟩=some (.int .i64 u1)∧w'.cell? ⟨H.hs o.j,4,none⟩=some (.int .i64 u2)∧w'.cell? ⟨H.hs o.j,5,none⟩=some (.int .i64 m0)∧w'.cell? ⟨H.hs o.j,6,none⟩=some (.int .i64 m1)∧w'.cell? ⟨H.hs o.j,7,none⟩=some (.int .i64 m2)∧w'.cell? ⟨H.hs o.j,8,none⟩=some (.int .i64 o.dO)) (first|exact c9|exact d9|exact d10) (first
  |(go_at_call 139;refine hV.mono ?_;rintro e w1 ⟨s,rfl,d9,hD⟩)
  |(go_at_call 140;refine hD.mono ?_;rintro e w2 ⟨t,rfl,d9,d10,hB⟩))
 all_goals
  clear c9 d9 d10 hV hD
  go_wp2_with fail
  go_ret
  exact ⟨s,t,w2.heap.size,rfl,hB.out⟩
end
def iV (S:KS) (p:Int) (o:Ow):KS:=((S.procs (fK S.P p (aP S.P))).born o.j).own (aP S.P) ⟨S.Ts.length,o.m,o.dO⟩
section
variable {w w' w1 w2:World}{m:Int}{H:KH}{S:KS}{U:Nat→Nat→Int}{q:Nat}{G:KG}{A:Nat→Prop}{p:Int}{o:Ow}
theorem Hm (S:KS) (j i:Nat):ax (S.born j) i=if i=S.Ts.length then ax S j else ax S i:=by
 show (S.Ts ++ [ax S j]).getD i bE=_
 rw [List.getD_eq_getElem?_getD]
 by_cases e:i<S.Ts.length
 ·rw [List.getElem?_append_left e,if_neg (by omega)]
  unfold ax
  rw [List.getD_eq_getElem?_getD]
 ·rw [List.getElem?_append_right (by omega)]
  by_cases e2:i=S.Ts.length
  ·rw [if_pos e2,e2];simp
  ·rw [if_neg e2,List.getElem?_eq_none (by simp;omega)]
   unfold ax
   rw [List.getD_eq_getElem?_getD,List.getElem?_eq_none (by omega)]
theorem Ig (S:KS) (hl:S.Ms.length=S.Ts.length) (j i:Nat):aK (S.born j) i=if i=S.Ts.length then aK S j else aK S i:=by
 show (S.Ms ++ [aK S j]).getD i kL=_
 rw [List.getD_eq_getElem?_getD]
 by_cases e:i<S.Ms.length
 ·rw [List.getElem?_append_left e,if_neg (by omega)]
  unfold aK
  rw [List.getD_eq_getElem?_getD]
 ·rw [List.getElem?_append_right (by omega)]
  by_cases e2:i=S.Ts.length
  ·rw [if_pos e2,e2,hl];simp
  ·rw [if_neg e2,List.getElem?_eq_none (by simp;omega)]
   unfold aK
   rw [List.getD_eq_getElem?_getD,List.getElem?_eq_none (by omega)]
theorem JN (P:Ps) (p k x:Int):ay (fK P p k) x=if x=k then true else ay P x:=by
 unfold ay fK
 by_cases e:x=k
 ·subst e
  rw [iK (mJ _ _ _),if_pos rfl];rfl
 ·rw [if_neg e]
  unfold gJ
  rw [o5 e]
theorem oW.wy (k:oW S) (ho:S.O p=some o) (hl:S.Ms.length=S.Ts.length) (hk:S.O (aP S.P)=none):oW (iV S p o):=by
 have hO:∀x o',(iV S p o).O x=some o'→(x=aP S.P∧o'=⟨S.Ts.length,o.m,o.dO⟩)∨(x≠aP S.P∧S.O x=some o'):=fun x o' e=>by
  have e:jI S.O (aP S.P) ⟨S.Ts.length,o.m,o.dO⟩ x=some o':=e
  by_cases ex:x=aP S.P
  ·rw [ex,dH] at e;exact .inl ⟨ex,(Option.some.inj e).symm⟩
  ·rw [fG ex] at e;exact .inr ⟨ex,e⟩
 refine ⟨fun x=>?_,fun j hj hn=>?_,fun x o' e=>?_⟩
 ·show (jI S.O (aP S.P) _ x).isSome=ay (fK S.P p (aP S.P)) x
  rw [JN]
  by_cases e:x=aP S.P
  ·rw [if_pos e,e,dH];rfl
  ·rw [if_neg e,fG e];exact k.run x
 ·have e1:ax (iV S p o) j=ax ((S.procs (fK S.P p (aP S.P))).born o.j) j:=rfl
  have e2:aK (iV S p o) j=aK ((S.procs (fK S.P p (aP S.P))).born o.j) j:=rfl
  have hj':j<S.Ts.length+1:=by
   have:j<(S.Ts ++ [ax S o.j]).length:=hj
   simpa using this
  have hne:j≠S.Ts.length:=fun e=>hn (aP S.P) ⟨S.Ts.length,o.m,o.dO⟩ (dH _ _ _) e.symm
  rw [e1,e2,Hm,Ig (S.procs (fK S.P p (aP S.P))) hl]
  have hne':¬j=(S.procs (fK S.P p (aP S.P))).Ts.length:=hne
  rw [if_neg hne',if_neg hne']
  refine k.gone j (by omega) (fun x o' e z=>?_)
  by_cases ex:x=aP S.P
  ·rw [ex,hk] at e;cases e
  ·exact hn x o' (by show jI S.O _ _ x=_;rw [fG ex];exact e) z
 ·rcases hO x o' e with ⟨_,rfl⟩|⟨_,e⟩
  ·exact k.fit p o ho
  ·exact k.fit x o' e
theorem KN.least (h:KN w m H S q A) (hc:(ah S.P).length<24):ru S.P (aP S.P)∧aP S.P≤24∧S.O (aP S.P)=none:=by
 obtain ⟨k,hk,Mh⟩:=ru.ex h.1.PD.Ta hc
 rw [pJ hk Mh]
 refine ⟨hk,Mh,h.Xl.2 ?_⟩
 unfold ay
 rw [j4 hk.no];rfl
theorem KX.M8 (h:KX w m H S U q A) (n:Int) (hn:(Lit.int .i64 n).wf=true):Calls Tryz.prog 55 #[wp H.t,.int .i64 n] w fun y w'=>y=.returned (.tuple #[.int .i64 (lV S.P n (ah S.P).length),aH (jW S.P n (ah S.P).length)])∧∃A',KX w' m H (S.procs (lU S.P n (ah S.P).length)) U q A'∧Stp w w' A A':=by
 refine (h.proc (Q:=fun y P'=>y=.returned (.tuple #[.int .i64 (lV S.P n (ah S.P).length),aH (jW S.P n (ah S.P).length)])∧P'=lU S.P n (ah S.P).length) (fun c qj=>?_)).mono ?_
 ·have e:c=(ah S.P).length:=qj.toQM.num.one h.PD.Ta
  subst e
  refine (qj.fork n hn).mono ?_
  rintro y w' ⟨rfl,t⟩;exact ⟨_,⟨rfl,rfl⟩,t⟩
 ·rintro y w' ⟨P',⟨rfl,rfl⟩,r⟩;exact ⟨rfl,r⟩
theorem KN.KE (h:KN w m H S q A) (ho:S.O p=some o) (hc:24≤(ah S.P).length) :
 Calls Tryz.prog 14 #[wp H.kb,.int .i64 p] w fun y w'=>y=.returned (.tuple #[.int .i64 0,eZ 12])∧∃A',KN w' m H S q A'∧Stp w w' A A':=by
 have hF:=h.1.aB ho
 have c3:=h.1.c3
 have hr:ay S.P p=true:=by rw [←h.2.run p,ho];rfl
 have e1:jW S.P p (ah S.P).length=12:=by unfold jW;rw [hr,if_neg (by simp),if_pos hc]
 have e2:lV S.P p (ah S.P).length=0:=by unfold lV;rw [e1,if_neg (by omega)]
 have e3:lU S.P p (ah S.P).length=S.P:=by unfold lU;rw [e1,if_neg (by omega)]
 have hX:Calls Tryz.prog 55 #[wp H.t,.int .i64 p] w fun y w'=>y=.returned (.tuple #[.int .i64 0,eZ 12])∧∃A',KN w' m H S q A'∧Stp w w' A A':=by
  refine (h.1.M8 p (h.1.SB ho)).mono ?_
  rintro y w1 ⟨rfl,A1,k1,st1⟩
  rw [e1,e2,az (by omega)]
  rw [e3] at k1
  exact ⟨rfl,A1,⟨k1,h.2⟩,st1⟩
 clear h ho hr e1 e2 e3
 go_enter Tryz.func14,Tryz.ntmps14
 go_wp2_with (first
  |(go_at_call 51;refine hF.mono ?_;rintro e w1 ⟨rfl,hw⟩;subst w1)
  |(go_at_call 55;refine hX.mono ?_;rintro e w1 ⟨rfl,hR⟩))
 go_ret2
 exact ⟨rfl,hR⟩
theorem KN.IA (h:KN w m H S q A) (ho:S.O p=some o) (hq:q≤90) (hc:(ah S.P).length<24) :
 Calls Tryz.prog 14 #[wp H.kb,.int .i64 p] w fun y w'=>y=.returned (.tuple #[.int .i64 (aP S.P),.nilIface])∧∃H' A',(H'.kb=H.kb∧H'.ok=H.ok)∧KN w' m H' (iV S p o) (q+1) A'∧Stp w w' A A':=by
 have hF:=h.1.aB ho
 have c3:=h.1.c3
 have hr:ay S.P p=true:=by rw [←h.2.run p,ho];rfl
 obtain ⟨hfr,Cr,Yv⟩:=h.least hc
 have hk1:=hfr.pos
 have e1:jW S.P p (ah S.P).length=0:=by unfold jW;rw [hr,if_neg (by simp),if_neg (by omega)]
 have e2:lV S.P p (ah S.P).length=aP S.P:=by unfold lV;rw [if_pos e1]
 have e3:lU S.P p (ah S.P).length=fK S.P p (aP S.P):=by unfold lU;rw [if_pos e1]
 have hX:Calls Tryz.prog 55 #[wp H.t,.int .i64 p] w fun y w'=>y=.returned (.tuple #[.int .i64 (aP S.P),.nilIface])∧(w'.cell? ⟨H.kb,4,none⟩=some (.map (some H.gm))∧w'.cell? ⟨H.kb,2,none⟩=some (wp H.f))∧
  Calls Tryz.prog 56 #[wp (H.hs o.j),wp H.f] w'.drew fun y w2=>∃b,y=.returned (wp b)∧(w2.cell? ⟨H.kb,4,none⟩=some (.map (some H.gm))∧w2.cell? ⟨H.kb,2,none⟩=some (wp H.f))∧∃w3,(Instr.mapUpdate 104 (.map (some H.gm)) (.int .i64 (aP S.P)) (wp b)).run Tryz.prog w2=.ok () w3∧(w3.cell? ⟨H.kb,4,none⟩=some (.map (some H.gm))∧w3.cell? ⟨H.kb,2,none⟩=some (wp H.f))∧Aside (∃H' A',(H'.kb=H.kb∧H'.ok=H.ok)∧KN w3 m H' (iV S p o) (q+1) A'∧Stp w w3 A A'):=by
  refine (h.1.M8 p (h.1.SB ho)).mono ?_
  rintro y w1 ⟨rfl,A1,k1,st1⟩
  rw [e1,e2,aC]
  rw [e3] at k1
  refine ⟨rfl,k1.Fj (p:=p) (o:=o) ho,((k1.below (bG w1)).Xt (p:=p) (o:=o) ho hq).mono ?_⟩
  rintro y w2 ⟨s,t,b,rfl,G',k',h5,hlt,hd,st2⟩
  have hb:(H.add S.Ts.length s t b).hs S.Ts.length=b:=if_pos rfl
  have hs:(H.add S.Ts.length s t b).sp S.Ts.length=s:=if_pos rfl
  have ht:(H.add S.Ts.length s t b).tb S.Ts.length=t:=if_pos rfl
  have c2:w2.cell? ⟨H.kb,4,none⟩=some (.map (some H.gm))∧w2.cell? ⟨H.kb,2,none⟩=some (wp H.f):=⟨(KX.of k').c4,(KX.of k').c2⟩
  obtain ⟨w3,hrun,G3,k3,vI⟩:=k'.put (k:=aP S.P) Yv ⟨hk1,Cr⟩ (o':=⟨S.Ts.length,o.m,o.dO⟩) (by show S.Ts.length<(S.Ts ++ [_]).length;simp) (by show G'.κ ((H.add S.Ts.length s t b).hs S.Ts.length)=5;rw [hb];exact h5) (fun p' o' ho'=>by
   have ho2:S.O p'=some o':=ho'
   have hl:=h.1.qh ho2
   show (H.add S.Ts.length s t b).hs o'.j≠(H.add S.Ts.length s t b).hs S.Ts.length
   rw [hb,show (H.add S.Ts.length s t b).hs o'.j=H.hs o'.j from if_neg (by omega)]
   have:=hlt p' o' ho2
   omega) (U':=jM S o.j) (by
   show Hd w2 ((H.add S.Ts.length s t b).hs S.Ts.length) ((H.add S.Ts.length s t b).sp S.Ts.length) ((H.add S.Ts.length s t b).tb S.Ts.length) (jM S o.j) o.m o.dO
   rw [hb,hs,ht];exact hd)
  have hrun':(Instr.mapUpdate 104 (.map (some H.gm)) (.int .i64 (aP S.P)) (wp b)).run Tryz.prog w2=.ok () w3:=by rw [←hb];exact hrun
  refine ⟨b,rfl,c2,w3,hrun',⟨(KX.of k3).c4,(KX.of k3).c2⟩,H.add S.Ts.length s t b,_,⟨rfl,rfl⟩,(KX.of k3).toN (h.2.wy ho h.1.len Yv) (fun p' o' ho' k hk=>?_),(st1.trans (Stp.base (V:=w1.drew) rfl rfl rfl rfl st2)).trans vI⟩
  have hO:(p'=aP S.P∧o'=⟨S.Ts.length,o.m,o.dO⟩)∨(p'≠aP S.P∧S.O p'=some o'):=by
   have e:jI S.O (aP S.P) ⟨S.Ts.length,o.m,o.dO⟩ p'=some o':=ho'
   by_cases ex:p'=aP S.P
   ·rw [ex,dH] at e;exact .inl ⟨ex,(Option.some.inj e).symm⟩
   ·rw [fG ex] at e;exact .inr ⟨ex,e⟩
  have et:∀i,ax (iV S p o) i=if i=S.Ts.length then ax S o.j else ax S i:=fun i=>Hm (S.procs (fK S.P p (aP S.P))) o.j i
  have em:∀i,aK (iV S p o) i=if i=S.Ts.length then aK S o.j else aK S i:=fun i=>Ig (S.procs (fK S.P p (aP S.P))) h.1.len o.j i
  rcases hO with ⟨_,rfl⟩|⟨_,ho2⟩
  ·simp only [if_true]
   have e9:jM (iV S p o) S.Ts.length k=jM S o.j k:=by
    unfold jM
    rw [et,em,if_pos rfl,if_pos rfl]
   exact e9.symm
  ·have hl:=h.1.qh ho2
   simp only
   rw [if_neg (by omega)]
   have e9:jM (iV S p o) o'.j k=jM S o'.j k:=by
    unfold jM
    have hne:¬o'.j=S.Ts.length:=by omega
    rw [et,em,if_neg hne,if_neg hne]
   exact e9.symm
 generalize iV S p o=S2 at *
 generalize aP S.P=X at *
 clear h ho hr e1 e2 e3 hfr Yv
 go_enter Tryz.func14,Tryz.ntmps14
 go_upto_region 7 with (first
  |(go_at_call 51;refine hF.mono ?_;rintro e w1 ⟨rfl,hw⟩;subst w1)
  |(go_at_call 55;refine hX.mono ?_;rintro e w1 ⟨rfl,c0,hC⟩))
 clear hX hF c3
 go_region_held3 (fun w'=>w'.cell? ⟨H.kb,4,none⟩=some (.map (some H.gm))∧w'.cell? ⟨H.kb,2,none⟩=some (wp H.f)) (first|exact c0|exact c1|exact c9) (first
  |(go_at_call 56;refine hC.mono ?_;rintro e w2 ⟨b,rfl,c1,w3,hrun,c9,hR⟩))
 all_goals
  clear c0 hC hrun c1 c9
  go_wp2_with fail
  go_ret2
  exact ⟨rfl,hR.out⟩
end
section
variable {w w' w1 w2:World}{m:Int}{H:KH}{S:KS}{U:Nat→Nat→Int}{q:Nat}{G:KG}{A:Nat→Prop}{p:Int}{o:Ow}
def EN (S:KS) (j:Nat) (n:Int):Nat→Nat→Int:=fun i=>if i=j then after (jM S j) 1 n else jM S i
def sD (A X:Nat→Prop):Nat→Prop:=fun i=>A i∨X i
theorem Stp.with {A' X:Nat→Prop}(h:Stp w w' A A') (_hX:∀i,X i→i<w.heap.size):Stp w w' (sD A X) (sD A' X):=
 ⟨⟨h.wt.os,h.wt.tape,h.wt.output,h.wt.size,fun i hi hn=>h.wt.block i hi (fun z=>hn (.inl z))⟩,fun i hi=>by
  rcases hi with z|z
  ·rcases h.own i z with y|y
   ·exact .inl (.inl y)
   ·exact .inr y
  ·exact .inl (.inr z)⟩
theorem G7 {S:KS}{o:Ow}{n:Int}(hn:1≤n∧n≤2) (h8:(ax S o.j).length=8):why (jM S o.j) o.m 1 n=if ((aj (ax S o.j):Nat):Int)+n≤o.m 1 then 0 else 4:=by
 have e:jM S o.j (1:Int).toNat=((aj (ax S o.j):Nat):Int):=rfl
 have e2:o.m (1:Int).toNat=o.m 1:=rfl
 unfold why
 rw [e,e2]
 have:=tH h8
 by_cases hc:((aj (ax S o.j):Nat):Int)+n≤o.m 1
 ·rw [if_pos hc,if_neg (by omega),if_neg (by omega),if_neg (by omega),if_neg (by omega)]
 ·rw [if_neg hc,if_neg (by omega),if_neg (by omega),if_pos (by omega)]
theorem xG {S:KS}{o:Ow}{n:Int}{D':DS}{N':Ns}(hj:o.j<S.Ts.length) (hu:((aj N':Nat):Int)=aj (ax S o.j)+n) (i k:Nat) (hk:k<3):EN S o.j n i k=jM (S.files D' o.j N') i k:=by
 unfold EN
 by_cases e:i=o.j
 ·rw [if_pos e,e]
  unfold after put jM
  rw [fo hj,if_pos rfl,mh]
  match k,hk with
  |0,_=>rfl
  |1,_=>show ((aj (ax S o.j):Nat):Int)+n=_;rw [←hu];rfl
  |2,_=>rfl
 ·rw [if_neg e]
  unfold jM
  rw [fo hj,if_neg e,mh]
theorem KX.oG (h:KN w m H S q A) (ho:S.O p=some o) {n:Int}(hn:1≤n∧n≤2) {fn:Nat}{lb:Array Value}(ef:∀args w,(callFunc fn args).run Tryz.prog w=.ok (.enter fn args) w) {X:Nat→Prop}(hX:∀i,X i→i<w.heap.size) {Q:Int→DS→Ns→World→Prop}
 (hQ:∀c D' N' w2 w3,Q c D' N' w2→w2.grownBy w3 (some (H.hs o.j))→Q c D' N' w3)
 (hdo:∀V,KX V m H S (EN S o.j n) q A→Stp w V A A→Calls Tryz.prog fn lb V fun y w2=>∃c D' N',y=.returned (aH c)∧Q c D' N' w2∧(c=0→((aj N':Nat):Int)=aj (ax S o.j)+n)∧(c≠0→D'=S.D∧N'=ax S o.j)∧∃A2,(∀i,X i→¬A2 i)∧KX w2 m H (S.files D' o.j N') (EN S o.j n) (q+1) A2∧Stp V w2 (sD A X) (sD A2 X)) :
 Calls Tryz.prog 52 #[wp (H.hs o.j),.int .i64 1,.int .i64 n,.func (.func fn) #[] lb] w fun y w'=>∃c,y=.returned (aH c)∧
  ((¬((aj (ax S o.j):Nat):Int)+n≤o.m 1∧c=4∧∃A',KN w' m H S q A'∧Stp w w' A A')∨
   (((aj (ax S o.j):Nat):Int)+n≤o.m 1∧∃D' N',Q c D' N' w'∧∃A',(∀i,X i→¬A' i)∧KN w' m H (S.files D' o.j N') (q+1) A'∧Stp w w' (sD A X) (sD A' X))):=by
 have hj:=h.1.qh ho
 have hw:=G7 (S:=S) (o:=o) hn (h.1.sJ o.j)
 refine (h.1.hd ho).oG (h.1.ET o.j) (h.2.fit p o ho).1 h.1.er (h.1.hne ho) 1 n ef (R:=fun c w'=>(¬((aj (ax S o.j):Nat):Int)+n≤o.m 1∧c=4∧∃A',KN w' m H S q A'∧Stp w w' A A')∨
  (((aj (ax S o.j):Nat):Int)+n≤o.m 1∧∃D' N',Q c D' N' w'∧∃A',(∀i,X i→¬A' i)∧KN w' m H (S.files D' o.j N') (q+1) A'∧Stp w w' (sD A X) (sD A' X))) (fun hne V hd g=>?_) (fun he V hd g=>?_)
 ·obtain ⟨k',st⟩:=h.1.TY ho hd g
  rw [hw] at hne ⊢
  split at hne
  ·exact absurd rfl hne
  ·rename_i hc
   rw [if_neg hc]
   refine .inl ⟨hc,rfl,A,k'.toN h.2 (fun p' o' ho' k hk=>?_),st⟩
   by_cases ej:o'.j=o.j
   ·simp only [if_pos ej];rw [ej]
   ·simp only [if_neg ej]
 ·have hle:((aj (ax S o.j):Nat):Int)+n≤o.m 1:=by
   rw [hw] at he
   split at he
   ·assumption
   ·omega
  obtain ⟨k',st⟩:=h.1.TY ho hd g
  refine (hdo V k' st).mono ?_
  rintro y w2 ⟨c,D',N',rfl,hQ2,hc0,hc1,A2,nA,k2,st2⟩
  refine ⟨c,rfl,fun hc=>?_,fun hc=>⟨?_,fun i hi hiV=>?_,fun w3 hd3 g3=>?_⟩⟩
  ·subst hc
   refine .inr ⟨hle,D',N',hQ2,A2,nA,k2.toN (h.2.files ho _ _) (fun p' o' ho' k hk=>xG hj (hc0 rfl) _ _ hk),(st.with hX).trans st2⟩
  ·have:=k2.hd (p:=p) (o:=o) ho
   unfold EN at this
   rw [if_pos rfl] at this
   exact this
  ·refine st2.wt.block i hiV (fun z=>?_)
   rcases z with z|z
   ·have:=h.1.lt i z;omega
   ·have:=hX i z;omega
  ·obtain ⟨rfl,rfl⟩:=hc1 hc
   rw [nI hj] at k2
   obtain ⟨k3,vI⟩:=k2.TY (p:=p) (o:=o) ho hd3 g3
   have hX2:∀i,X i→i<w2.heap.size:=fun i hi=>Nat.lt_of_lt_of_le (hX i hi) (Nat.le_trans st.wt.size st2.wt.size)
   refine .inr ⟨hle,S.D,ax S o.j,hQ _ _ _ _ _ hQ2 g3,A2,nA,?_,((st.with hX).trans st2).trans (vI.with hX2)⟩
   rw [nI hj]
   refine k3.toN h.2 (fun p' o' ho' k hk=>?_)
   by_cases ej:o'.j=o.j
   ·simp only [if_pos ej];rw [ej]
   ·simp only [if_neg ej]
    unfold EN
    rw [if_neg ej]
end
section
variable {w w' w1 w2:World}{m:Int}{H:KH}{S:KS}{U:Nat→Nat→Int}{q:Nat}{G:KG}{A:Nat→Prop}{p:Int}{o:Ow}
theorem KM.same (h:KM w m H S U q G) (hs:w.heap.size≤w'.heap.size) (hk:∀i,G.κ i≠0→w'.heap[i]? = w.heap[i]?) (g1:w'.heap[4]? = w.heap[4]?) (g2:w'.heap[0]? = w.heap[0]?) (g3:w'.heap[2]? = w.heap[2]?):KM w' m H S U q G:=by
 have hb:∀i c,G.κ i=c→c≠0→w'.heap[i]? = w.heap[i]? := fun i c e h0=>hk i (by omega)
 have m1:w'.cell? ⟨4,0,none⟩=some (.int .i64 m):=by
  rw [World.cell?_of_block (w:=w) (a:=⟨4,0,none⟩) g1];exact h.kd.ml
 have m2:w'.cell? ⟨0,0,none⟩=some fC:=by
  rw [World.cell?_of_block (w:=w) (a:=⟨0,0,none⟩) g2];exact h.kd.er
 obtain ⟨c,hc⟩:=h.qj
 obtain ⟨z,hm⟩:=h.map
 exact { h with
  head:=(hb _ 6 h.kk (by omega)).trans h.head
  al:=h.al.keep (fun i hi=>hb i 1 (h.k1 i hi) (by omega)) (hb _ 6 h.kE (by omega)) (hb _ 6 h.kB (by omega)) (fun i hi=>by
   rw [h.sp i hi]
   exact hb _ 6 (h.ks i (by rw [←h.Ll];exact hi)) (by omega))
  kd:=h.kd.keep (fun i hi=>hb i 2 (h.k2 i hi) (by omega)) hs m1 m2
  qj:=⟨c,⟨hc.toQM.keep (hb _ 6 h.kt (by omega)) (hb _ 3 h.k3 (by omega)),hc.ok,hc.dj⟩⟩
  map:=⟨z,hm.keep (hb _ 4 h.k4 (by omega))⟩
  hold:=fun p o ho=>(h.hold p o ho).keep (hb _ 5 (h.k5 p o ho) (by omega))
  tab:=h.tab.keep g3
  yI:=fun i hi=>Nat.lt_of_lt_of_le (h.yI i hi) hs }
def Out (w:World) (A:Nat→Prop) (x:Nat):Prop:=¬A x∧x≠4∧x≠0∧x≠2∧w.frozen? ⟨x,0,none⟩=false∧∃v,w.cell? ⟨x,0,none⟩=some v
theorem Out.nV {A':Nat→Prop}{x:Nat}(h:Out w A x) (st:Stp w w' A A'):Out w' A' x:=by
 obtain ⟨h1,h2,h3,h4,h5,v,hv⟩:=h
 obtain ⟨c,n⟩:=st.bg hv h1
 have hlt:x<w.heap.size:=World.block_lt_of_cell? w _ hv
 exact ⟨n,h2,h3,h4,by rw [World.frozen?_of_block (w:=w) (a:=⟨x,0,none⟩) (st.wt.block x hlt h1)];exact h5,v,c⟩
theorem KX.box (h:KX w m H S U q A) {x:Nat}(hx:Out w A x) (v:Value):KX (w.setCell ⟨x,0,none⟩ v) m H S U q A:=by
 obtain ⟨G,k,e⟩:=h
 obtain ⟨h1,h2,h3,h4,_,_⟩:=hx
 have hk:∀i,i≠x→(w.setCell ⟨x,0,none⟩ v).heap[i]? = w.heap[i]? := fun i hi=>Below.heap_setCell _ _ _ _ (fun e=>hi (by rw [e]))
 exact ⟨G,k.same (by simp [World.setCell]) (fun i hi=>hk i (fun z=>by subst z;exact h1 ((e i).2 hi))) (hk _ (Ne.symm h2)) (hk _ (Ne.symm h3)) (hk _ (Ne.symm h4)),e⟩
theorem Out.set {x y:Nat}(h:Out w A x) (v:Value):Out (w.setCell ⟨y,0,none⟩ v) A x:=by
 obtain ⟨h1,h2,h3,h4,h5,u,hu⟩:=h
 refine ⟨h1,h2,h3,h4,by rw [World.frozen?_setCell];exact h5,?_⟩
 by_cases e:x=y
 ·subst e;exact ⟨v,World.cell?_setCell_same _ _ _ hu⟩
 ·exact ⟨u,by rw [World.cell?_setCell_other _ _ _ _ (by intro z;simp only [Addr.mk.injEq,and_true] at z;exact e z.symm)];exact hu⟩
theorem Out.got {x:Nat}(h:Out w A x) (v:Value):(w.setCell ⟨x,0,none⟩ v).cell? ⟨x,0,none⟩=some v:=by
 obtain ⟨_,_,_,_,_,u,hu⟩:=h
 exact World.cell?_setCell_same _ _ _ hu
theorem iW {x b o':Nat}{u:Value}(hu:w.cell? ⟨b,o',none⟩=some u) (hne:b≠x) (v:Value):(w.setCell ⟨x,0,none⟩ v).cell? ⟨b,o',none⟩=some u:=by
 rw [World.cell?_setCell_other _ _ _ _ (by intro z;simp only [Addr.mk.injEq,and_true] at z;exact hne z.1.symm)];exact hu
theorem Ht {x:Nat}{A':Nat→Prop}(st:Stp w w1 A A') (v:Value) (_hx:x<w.heap.size):Stp w (w1.setCell ⟨x,0,none⟩ v) (sD A (fun i=>i=x)) (sD A' (fun i=>i=x)):=
 ⟨⟨st.wt.os,st.wt.tape,st.wt.output,by simpa [World.setCell] using st.wt.size,fun i hi hn=>by
  rw [Below.heap_setCell _ _ _ _ (fun e=>hn (.inr (by rw [e])))]
  exact st.wt.block i hi (fun z=>hn (.inl z))⟩,fun i hi=>by
  rcases hi with z|z
  ·rcases st.own i z with y|y
   ·exact .inl (.inl y)
   ·exact .inr y
  ·exact .inl (.inr z)⟩
theorem pR.set {x:Nat}{l:List (Nat×Value)}(h:pR w A l) (hl:∀y∈l,y.1≠x) (v:Value):pR (w.setCell ⟨x,0,none⟩ v) A l:=fun y hy=>⟨iW (h y hy).1 (hl y hy) v,(h y hy).2⟩
theorem KX.ZQ (h:KX w m H S U q A) (ho:S.O p=some o) (x:Int) {xk xh xn xo:Nat}(hb:pR w A [(xk,wp H.kb),(xh,wp (H.hs o.j)),(xn,.int .i64 x)]) (hx:Out w A xo) (hne:xk≠xo∧xh≠xo∧xn≠xo) :
 Calls Tryz.prog 204 #[wp xk,wp xh,wp xn,wp xo] w fun y w'=>y=.returned (aH (iQ (ax S o.j) x))∧w'.cell? ⟨xo,0,none⟩=some (.int .i64 (iC (ax S o.j) x))∧∃A',Out w' A' xo∧KX w' m H (S.files (jR S.D (ax S o.j) x) o.j (jQ (ax S o.j) x)) U q A'∧Stp w w' (sD A (fun i=>i=xo)) (sD A' (fun i=>i=xo)):=by
 have hxl:xo<w.heap.size:=by obtain ⟨_,_,_,_,_,v,hv⟩:=hx;exact World.block_lt_of_cell? w _ hv
 have cells:∀ {w':World}{A':Nat→Prop}{S':KS},KX w' m H S' U q A'→S'.O p=some o→pR w' A' [(xk,wp H.kb),(xh,wp (H.hs o.j)),(xn,.int .i64 x)]→w'.cell? ⟨xk,0,none⟩=some (wp H.kb)∧w'.cell? ⟨H.kb,2,none⟩=some (wp H.f)∧w'.cell? ⟨xh,0,none⟩=some (wp (H.hs o.j))∧w'.cell? ⟨H.hs o.j,1,none⟩=some (wp (H.tb o.j))∧w'.cell? ⟨xn,0,none⟩=some (.int .i64 x):=fun h' ho' b'=>
  ⟨(b' (xk,_) (by simp)).1,h'.c2,(b' (xh,_) (by simp)).1,(h'.hd ho').at 1,(b' (xn,_) (by simp)).1⟩
 have c0:=cells h ho hb
 have hM:Calls Tryz.prog 205 #[wp H.f,wp (H.tb o.j),.int .i64 x] w.drew fun y w'=>y=.returned (.tuple #[.int .i64 (iC (ax S o.j) x),aH (iQ (ax S o.j) x)])∧(w'.cell? ⟨xk,0,none⟩=some (wp H.kb)∧w'.cell? ⟨H.kb,2,none⟩=some (wp H.f)∧w'.cell? ⟨xh,0,none⟩=some (wp (H.hs o.j))∧w'.cell? ⟨H.hs o.j,1,none⟩=some (wp (H.tb o.j))∧w'.cell? ⟨xn,0,none⟩=some (.int .i64 x))∧w'.frozen? ⟨xo,0,none⟩=false∧(∃v,w'.cell? ⟨xo,0,none⟩=some v)∧((w'.setCell ⟨xo,0,none⟩ (.int .i64 (iC (ax S o.j) x))).cell? ⟨xk,0,none⟩=some (wp H.kb)∧(w'.setCell ⟨xo,0,none⟩ (.int .i64 (iC (ax S o.j) x))).cell? ⟨H.kb,2,none⟩=some (wp H.f)∧(w'.setCell ⟨xo,0,none⟩ (.int .i64 (iC (ax S o.j) x))).cell? ⟨xh,0,none⟩=some (wp (H.hs o.j))∧(w'.setCell ⟨xo,0,none⟩ (.int .i64 (iC (ax S o.j) x))).cell? ⟨H.hs o.j,1,none⟩=some (wp (H.tb o.j))∧(w'.setCell ⟨xo,0,none⟩ (.int .i64 (iC (ax S o.j) x))).cell? ⟨xn,0,none⟩=some (.int .i64 x))∧
  Aside ((w'.setCell ⟨xo,0,none⟩ (.int .i64 (iC (ax S o.j) x))).cell? ⟨xo,0,none⟩=some (.int .i64 (iC (ax S o.j) x))∧∃A',Out (w'.setCell ⟨xo,0,none⟩ (.int .i64 (iC (ax S o.j) x))) A' xo∧KX (w'.setCell ⟨xo,0,none⟩ (.int .i64 (iC (ax S o.j) x))) m H (S.files (jR S.D (ax S o.j) x) o.j (jQ (ax S o.j) x)) U q A'∧Stp w (w'.setCell ⟨xo,0,none⟩ (.int .i64 (iC (ax S o.j) x))) (sD A (fun i=>i=xo)) (sD A' (fun i=>i=xo))):=by
  refine ((h.below (bG w)).ZO (h.qh ho) x).mono ?_
  rintro y w' ⟨rfl,A',h',st⟩
  have st':Stp w w' A A':=Stp.base (V:=w.drew) rfl rfl rfl rfl st
  have hx':=hx.nV st'
  have hb':=hb.nV st'
  obtain ⟨v,hv⟩:=hx'.2.2.2.2.2
  have hbs:=hb'.set (x:=xo) (fun y hy=>by
   simp at hy
   rcases hy with rfl|rfl|rfl<;>first|exact hne.1|exact hne.2.1|exact hne.2.2) (.int .i64 (iC (ax S o.j) x))
  have kb:=h'.box hx' (.int .i64 (iC (ax S o.j) x))
  exact ⟨rfl,cells h' ho hb',hx'.2.2.2.2.1,⟨v,hv⟩,cells kb ho hbs,hx'.got _,A',hx'.set _,kb,Ht st' _ hxl⟩
 generalize iQ (ax S o.j) x=E at *
 generalize iC (ax S o.j) x=K at *
 generalize S.files (jR S.D (ax S o.j) x) o.j (jQ (ax S o.j) x)=S2 at *
 clear h ho cells hb hx hne hxl
 go_enter Tryz.func204,Tryz.ntmps204
 go_upto_region 1 with fail
 go_region_held3 (fun w'=>w'.cell? ⟨xk,0,none⟩=some (wp H.kb)∧w'.cell? ⟨H.kb,2,none⟩=some (wp H.f)∧w'.cell? ⟨xh,0,none⟩=some (wp (H.hs o.j))∧w'.cell? ⟨H.hs o.j,1,none⟩=some (wp (H.tb o.j))∧w'.cell? ⟨xn,0,none⟩=some (.int .i64 x)) (first|exact c0|exact c1|exact c3) (first
  |(go_at_call 205;refine hM.mono ?_;rintro e w1 ⟨rfl,c1,f1,⟨v1,hv1⟩,c3,hR⟩))
 all_goals
  clear c0 c1 c3 hM f1 hv1
  go_wp2_with fail
  go_ret
  exact ⟨rfl,hR.out⟩
end
section
variable {w w' w1 w2 V:World}{m:Int}{H:KH}{S:KS}{U:Nat→Nat→Int}{q:Nat}{G:KG}{A A' X:Nat→Prop}{p:Int}{o:Ow}
theorem Stp.inner (hb:Below w.heap.size w V) (st:Stp V w2 (sD A X) (sD A' X)) (hX:∀i,X i→w.heap.size≤i):Stp w w2 A A':=
 ⟨⟨st.wt.os.trans hb.os,st.wt.tape.trans hb.tape,st.wt.output.trans hb.output,Nat.le_trans hb.size st.wt.size,fun i hi hn=>by
  rw [st.wt.block i (Nat.lt_of_lt_of_le hi hb.size) (fun z=>by
   rcases z with z|z
   ·exact hn z
   ·have:=hX i z;omega)]
  exact hb.block i hi⟩,fun i hi=>by
  rcases st.own i (.inl hi) with z|z
  ·rcases z with z|z
   ·exact .inl z
   ·exact .inr (hX i z)
  ·exact .inr (Nat.le_trans hb.size z)⟩
theorem Stp.boxed {x:Nat}(st:Stp w w2 A A') (hx:w.heap.size≤x) (v:Value):Stp w (w2.setCell ⟨x,0,none⟩ v) A A':=
 ⟨⟨st.wt.os,st.wt.tape,st.wt.output,by simpa [World.setCell] using st.wt.size,fun i hi hn=>by
  rw [Below.heap_setCell _ _ _ _ (fun e=>by simp only at e;omega)]
  exact st.wt.block i hi hn⟩,st.own⟩
theorem KN.box (h:KN w m H S q A) {x:Nat}(hx:Out w A x) (v:Value):KN (w.setCell ⟨x,0,none⟩ v) m H S q A:=⟨h.1.box hx v,h.2⟩
theorem KX.Mo (h:KX w m H S U q A) (_hb:Below w.heap.size w V) {x:Nat}(hx:w.heap.size≤x) {v:Value}(hc:V.cell? ⟨x,0,none⟩=some v) (hf:V.frozen? ⟨x,0,none⟩=false):Out V A x:=by
 obtain ⟨G,k,e⟩:=h
 have g1:=k.pX
 have g2:=k.p8
 have g3:=k.jJ
 exact ⟨fun z=>by have:=k.yI x ((e x).1 z);omega,by omega,by omega,by omega,hf,v,hc⟩
theorem dN (hb:Below w.heap.size w V) {x:Nat}(hx:x<w.heap.size) (h:w.frozen? ⟨x,0,none⟩=false):V.frozen? ⟨x,0,none⟩=false:=by
 rw [World.frozen?_of_block (w:=w) (a:=⟨x,0,none⟩) (hb.block x hx)];exact h
def lW (S:KS) (o:Ow) (n:Int):Prop:=((aj (ax S o.j):Nat):Int)+n≤o.m 1
instance (S:KS) (o:Ow) (n:Int):Decidable (lW S o n):=by unfold lW;infer_instance
def yM (S:KS) (o:Ow) (x:Int):Int:=if lW S o 1 then iQ (ax S o.j) x else 4
def rq (S:KS) (o:Ow) (x:Int):Int:=if lW S o 1 then iC (ax S o.j) x else 0
def rf (S:KS) (o:Ow) (x:Int):KS:=if lW S o 1 then S.files (jR S.D (ax S o.j) x) o.j (jQ (ax S o.j) x) else S
theorem KN.RO (h:KN w m H S q A) (ho:S.O p=some o) (x:Int) :
 Calls Tryz.prog 108 #[wp H.kb,.int .i64 p,.int .i64 x] w fun y w'=>y=.returned (.tuple #[.int .i64 (rq S o x),aH (yM S o x)])∧∃A',KN w' m H (rf S o x) (q+1) A'∧Stp w w' A A':=by
 have hpay:∀(V:World) (xk xh xn xo:Nat),Below w.heap.size w V→pR V A [(xk,wp H.kb),(xh,wp (H.hs o.j)),(xn,.int .i64 x)]→xk≠xo∧xh≠xo∧xn≠xo→w.heap.size≤xo→Out V A xo→V.cell? ⟨xo,0,none⟩=some (.int .i64 0)→
  Calls Tryz.prog 52 #[wp (H.hs o.j),.int .i64 1,.int .i64 1,.func (.func 204) #[] #[wp xk,wp xh,wp xn,wp xo]] V fun y w'=>y=.returned (aH (yM S o x))∧w'.cell? ⟨xo,0,none⟩=some (.int .i64 (rq S o x))∧w'.frozen? ⟨xo,0,none⟩=false∧(w'.setCell ⟨xo,0,none⟩ (.int .i64 (rq S o x))).cell? ⟨xo,0,none⟩=some (.int .i64 (rq S o x))∧Aside (∃A',KN (w'.setCell ⟨xo,0,none⟩ (.int .i64 (rq S o x))) m H (rf S o x) (q+1) A'∧Stp w (w'.setCell ⟨xo,0,none⟩ (.int .i64 (rq S o x))) A A'):=fun V xk xh xn xo bV bx hne hxo hout hz=>by
  have hxl:xo<V.heap.size:=World.block_lt_of_cell? V _ hz
  refine (KX.oG (h.below bV) ho (n:=1) ⟨by omega,by omega⟩ (fn:=204) (lb:=#[wp xk,wp xh,wp xn,wp xo]) (fun args w=>by kernel_rfl) (X:=fun i=>i=xo) (fun i hi=>by rw [hi];exact hxl) (Q:=fun c D' N' w2=>c=iQ (ax S o.j) x∧D'=jR S.D (ax S o.j) x∧N'=jQ (ax S o.j) x∧w2.cell? ⟨xo,0,none⟩=some (.int .i64 (iC (ax S o.j) x))∧w2.frozen? ⟨xo,0,none⟩=false) ?_ ?_).mono ?_
  ·rintro c D' N' w2 w3 ⟨h1,h2,h3,h4,h5⟩ g
   have hk:w3.heap[xo]? = w2.heap[xo]? := g.block xo (World.block_lt_of_cell? w2 _ h4) (fun e=>by
    have:=hout.1
    have e2:=Option.some.inj e
    have hA:=h.1
    obtain ⟨G,k,hκ⟩:=hA
    exact this ((hκ xo).2 (by rw [e2,k.k5 p o ho];omega)))
   exact ⟨h1,h2,h3,by rw [World.cell?_of_block (w:=w2) (a:=⟨xo,0,none⟩) hk];exact h4,by rw [World.frozen?_of_block (w:=w2) (a:=⟨xo,0,none⟩) hk];exact h5⟩
  ·intro V1 k1 st1
   refine (k1.ZQ ho x (bx.nV st1) (hout.nV st1) hne).mono ?_
   rintro y w2 ⟨rfl,hc,A2,hout2,k2,st2⟩
   obtain ⟨u1,u2⟩:=Ni (D:=S.D) (h.1.sJ o.j) x
   refine ⟨_,_,_,rfl,⟨rfl,rfl,rfl,hc,hout2.2.2.2.2.1⟩,fun e=>?_,fun e=>?_,A2,fun i hi=>by rw [hi];exact hout2.1,k2.more (by omega),st2⟩
   ·rw [u1 e];rfl
   ·exact ⟨(u2 e).2.1,(u2 e).2.2⟩
  ·rintro y w2 ⟨c,rfl,hR⟩
   rcases hR with ⟨hc,rfl,A2,k2,st2⟩|⟨hc,D',N',⟨rfl,rfl,rfl,h4,h5⟩,A2,nA,k2,st2⟩
   ·have hc':¬lW S o 1:=hc
    have ho2:=hout.nV st2
    have hz2:w2.cell? ⟨xo,0,none⟩=some (.int .i64 0):=(st2.bg hz hout.1).1
    unfold yM rq rf
    rw [if_neg hc',if_neg hc',if_neg hc']
    exact ⟨rfl,hz2,ho2.2.2.2.2.1,ho2.got _,A2,(k2.more (by omega)).box ho2 _,(st2.after bV).boxed hxo _⟩
   ·have hc':lW S o 1:=hc
    have ho2:Out w2 A2 xo:=⟨nA xo rfl,hout.2.1,hout.2.2.1,hout.2.2.2.1,h5,_,h4⟩
    unfold yM rq rf
    rw [if_pos hc',if_pos hc',if_pos hc']
    exact ⟨rfl,h4,h5,ho2.got _,A2,k2.box ho2 _,(Stp.inner bV st2 (fun i hi=>by rw [hi];exact hxo)).boxed hxo _⟩
 have hF:=fun W (hb:Below w.heap.size w W)=>(h.1.below hb).aB ho
 have hA:=h.1.lt
 have hO:=fun V (hb:Below w.heap.size w V) x v hx hc hf=>h.1.Mo (V:=V) hb (x:=x) hx (v:=v) hc hf
 generalize yM S o x=E at *
 generalize rq S o x=K at *
 generalize rf S o x=S2 at *
 have HP:Aside _:=hpay
 have HF:Aside _:=hF
 have HO:Aside _:=hO
 clear h ho hpay hF hO
 go_enter Tryz.func108,Tryz.ntmps108
 go_upto_region 1 with fail
 obtain ⟨b3,s3,c1,c2,c3⟩:=yB w (wp H.kb) (.int .i64 x) (.int .i64 0) 25 3 3
 have f3:=(gQ ((w.alloc (.cells #[wp H.kb] 25)).alloc (.cells #[.int .i64 x] 3)) (.int .i64 0) 3).2.2.2
 rw [(qZ w (wp H.kb) (.int .i64 x) 25 3).2.1] at f3
 generalize ((w.alloc (.cells #[wp H.kb] 25)).alloc (.cells #[.int .i64 x] 3)).alloc (.cells #[.int .i64 0] 3)=W at *
 have hF:=HF.out W b3
 clear HF
 go_upto_region 4 with (go_at_call 51;refine hF.mono ?_;rintro e w1 ⟨rfl,hw⟩;subst w1)
 obtain ⟨b4,s4,c4,_⟩:=gQ W (wp (H.hs o.j)) 99
 rw [s3] at c4
 have d1:=aV b4 c1
 have d2:=aV b4 c2
 have d3:=aV b4 c3
 have f4:=dN b4 (World.block_lt_of_cell? W _ c3) f3
 generalize W.alloc (.cells #[wp (H.hs o.j)] 99)=V at *
 have bV:Below w.heap.size w V:=b3.trans (b4.mono b3.size)
 have hP:=HP.out V w.heap.size (w.heap.size+1+1+1) (w.heap.size+1) (w.heap.size+1+1) bV (fun y hy=>by
  have hn:∀i,w.heap.size≤i→¬A i:=fun i hi z=>by have:=hA i z;omega
  simp only [List.mem_cons,List.not_mem_nil,or_false] at hy
  rcases hy with rfl|rfl|rfl
  ·exact ⟨d1,hn _ (Nat.le_refl _)⟩
  ·exact ⟨c4,hn _ (by omega)⟩
  ·exact ⟨d2,hn _ (by omega)⟩) ⟨by omega,by omega,by omega⟩ (by omega) (HO.out V bV _ _ (by omega) d3 f4) d3
 clear HP HO c1 c2 c3 f3 f4 hF b3 b4 bV s3 s4 d1 d2 d3
 go_wp2_with (go_at_call 52;refine hP.mono ?_;rintro e w1 ⟨rfl,g1,g2,g3,hR⟩)
 refine bodyPost_ret (v:=.tuple #[.int .i64 K,aH E]) (by simp [results,Tryz.results108,go_sem,g3]) rfl ⟨rfl,hR.out⟩
end
section
variable {w w' w1 w2 V:World}{m:Int}{H:KH}{S:KS}{U:Nat→Nat→Int}{q:Nat}{G:KG}{A A' X:Nat→Prop}{p:Int}{o:Ow}
theorem KX.Xv (h:KX w m H S U q A) (ho:S.O p=some o) (hq:q≤200) {n s:Nat}(hN:qR S.D.E n) (hs:di S.D.T s) (path:List UInt8) (hp:path.length<100000) (pr:Int) (mk:Bool) {xk xh xs xp xm xo:Nat}(hb:pR w A [(xk,wp H.kb),(xh,wp (H.hs o.j)),(xs,tx path),(xp,.int .i64 pr),(xm,.bool mk)]) (hx:Out w A xo) (hne:xk≠xo∧xh≠xo∧xs≠xo∧xp≠xo∧xm≠xo) :
 Calls Tryz.prog 202 #[wp xk,wp xh,wp xs,wp xp,wp xm,wp xo] w fun y w'=>∃x c D' N',y=.returned (aH c)∧iG S.D (ax S o.j) n s path pr mk x c D' N'∧w'.cell? ⟨xo,0,none⟩=some (.int .i64 x)∧∃A',Out w' A' xo∧KX w' m H (S.files D' o.j N') U (q+1) A'∧Stp w w' (sD A (fun i=>i=xo)) (sD A' (fun i=>i=xo)):=by
 have hxl:xo<w.heap.size:=by obtain ⟨_,_,_,_,_,v,hv⟩:=hx;exact World.block_lt_of_cell? w _ hv
 have cells:∀ {w':World}{A':Nat→Prop}{S':KS}{q':Nat},KX w' m H S' U q' A'→S'.O p=some o→pR w' A' [(xk,wp H.kb),(xh,wp (H.hs o.j)),(xs,tx path),(xp,.int .i64 pr),(xm,.bool mk)]→w'.cell? ⟨xk,0,none⟩=some (wp H.kb)∧w'.cell? ⟨H.kb,2,none⟩=some (wp H.f)∧w'.cell? ⟨xh,0,none⟩=some (wp (H.hs o.j))∧w'.cell? ⟨H.hs o.j,1,none⟩=some (wp (H.tb o.j))∧w'.cell? ⟨xs,0,none⟩=some (tx path)∧w'.cell? ⟨xp,0,none⟩=some (.int .i64 pr)∧w'.cell? ⟨xm,0,none⟩=some (.bool mk):=fun h' ho' b'=>
  ⟨(b' (xk,_) (by simp)).1,h'.c2,(b' (xh,_) (by simp)).1,(h'.hd ho').at 1,(b' (xs,_) (by simp)).1,(b' (xp,_) (by simp)).1,(b' (xm,_) (by simp)).1⟩
 have c0:=cells h ho hb
 have hM:Calls Tryz.prog 203 #[wp H.f,wp (H.tb o.j),tx path,.int .i64 pr,.bool mk] w.drew fun y w'=>∃x c,y=.returned (.tuple #[.int .i64 x,aH c])∧(w'.cell? ⟨xk,0,none⟩=some (wp H.kb)∧w'.cell? ⟨H.kb,2,none⟩=some (wp H.f)∧w'.cell? ⟨xh,0,none⟩=some (wp (H.hs o.j))∧w'.cell? ⟨H.hs o.j,1,none⟩=some (wp (H.tb o.j))∧w'.cell? ⟨xs,0,none⟩=some (tx path)∧w'.cell? ⟨xp,0,none⟩=some (.int .i64 pr)∧w'.cell? ⟨xm,0,none⟩=some (.bool mk))∧w'.frozen? ⟨xo,0,none⟩=false∧(∃v,w'.cell? ⟨xo,0,none⟩=some v)∧((w'.setCell ⟨xo,0,none⟩ (.int .i64 x)).cell? ⟨xk,0,none⟩=some (wp H.kb)∧(w'.setCell ⟨xo,0,none⟩ (.int .i64 x)).cell? ⟨H.kb,2,none⟩=some (wp H.f)∧(w'.setCell ⟨xo,0,none⟩ (.int .i64 x)).cell? ⟨xh,0,none⟩=some (wp (H.hs o.j))∧(w'.setCell ⟨xo,0,none⟩ (.int .i64 x)).cell? ⟨H.hs o.j,1,none⟩=some (wp (H.tb o.j))∧(w'.setCell ⟨xo,0,none⟩ (.int .i64 x)).cell? ⟨xs,0,none⟩=some (tx path)∧(w'.setCell ⟨xo,0,none⟩ (.int .i64 x)).cell? ⟨xp,0,none⟩=some (.int .i64 pr)∧(w'.setCell ⟨xo,0,none⟩ (.int .i64 x)).cell? ⟨xm,0,none⟩=some (.bool mk))∧
  Aside (∃D' N',iG S.D (ax S o.j) n s path pr mk x c D' N'∧(w'.setCell ⟨xo,0,none⟩ (.int .i64 x)).cell? ⟨xo,0,none⟩=some (.int .i64 x)∧∃A',Out (w'.setCell ⟨xo,0,none⟩ (.int .i64 x)) A' xo∧KX (w'.setCell ⟨xo,0,none⟩ (.int .i64 x)) m H (S.files D' o.j N') U (q+1) A'∧Stp w (w'.setCell ⟨xo,0,none⟩ (.int .i64 x)) (sD A (fun i=>i=xo)) (sD A' (fun i=>i=xo))):=by
  refine ((h.below (bG w)).bF (h.qh ho) hq hN hs path hp pr mk).mono ?_
  rintro y w' ⟨D',N',⟨x,c,rfl,hF⟩,A',h',st⟩
  have st':Stp w w' A A':=Stp.base (V:=w.drew) rfl rfl rfl rfl st
  have hx':=hx.nV st'
  have hb':=hb.nV st'
  obtain ⟨v,hv⟩:=hx'.2.2.2.2.2
  have hbs:=hb'.set (x:=xo) (fun y hy=>by
   simp at hy
   rcases hy with rfl|rfl|rfl|rfl|rfl<;>first|exact hne.1|exact hne.2.1|exact hne.2.2.1|exact hne.2.2.2.1|exact hne.2.2.2.2) (.int .i64 x)
  have kb:=h'.box hx' (.int .i64 x)
  exact ⟨x,c,rfl,cells h' ho hb',hx'.2.2.2.2.1,⟨v,hv⟩,cells kb ho hbs,D',N',hF,hx'.got _,A',hx'.set _,kb,Ht st' _ hxl⟩
 clear h ho cells hb hx hne hxl hN hs hp
 go_enter Tryz.func202,Tryz.ntmps202
 go_upto_region 1 with fail
 go_region_held3 (fun w'=>w'.cell? ⟨xk,0,none⟩=some (wp H.kb)∧w'.cell? ⟨H.kb,2,none⟩=some (wp H.f)∧w'.cell? ⟨xh,0,none⟩=some (wp (H.hs o.j))∧w'.cell? ⟨H.hs o.j,1,none⟩=some (wp (H.tb o.j))∧w'.cell? ⟨xs,0,none⟩=some (tx path)∧w'.cell? ⟨xp,0,none⟩=some (.int .i64 pr)∧w'.cell? ⟨xm,0,none⟩=some (.bool mk)) (first|exact c0|exact c1|exact c3) (first
  |(go_at_call 203;refine hM.mono ?_;rintro e w1 ⟨x,c,rfl,c1,f1,⟨v1,hv1⟩,c3,hR⟩))
 all_goals
  clear c0 c1 c3 hM f1 hv1
  go_wp2_with fail
  go_ret
  obtain ⟨D',N',hR⟩:=hR.out
  exact ⟨x,c,D',N',rfl,hR⟩
def MF (S:KS) (o:Ow) (n s:Nat) (path:List UInt8) (pr:Int) (mk:Bool) (x c:Int) (S':KS):Prop:=(¬lW S o 1∧x=0∧c=4∧S'=S)∨(lW S o 1∧∃D' N',iG S.D (ax S o.j) n s path pr mk x c D' N'∧S'=S.files D' o.j N')
theorem KN.Oz (h:KN w m H S q A) (ho:S.O p=some o) (hq:q≤200) {n s:Nat}(hN:qR S.D.E n) (hs:di S.D.T s) (path:List UInt8) (hp:path.length<100000) (pr:Int) (mk:Bool) :
 Calls Tryz.prog 107 #[wp H.kb,.int .i64 p,tx path,.int .i64 pr,.bool mk] w fun y w'=>∃x c S',y=.returned (.tuple #[.int .i64 x,aH c])∧MF S o n s path pr mk x c S'∧∃A',KN w' m H S' (q+1) A'∧Stp w w' A A':=by
 have hpay:∀(V:World) (xk xh xs xp xm xo:Nat),Below w.heap.size w V→pR V A [(xk,wp H.kb),(xh,wp (H.hs o.j)),(xs,tx path),(xp,.int .i64 pr),(xm,.bool mk)]→xk≠xo∧xh≠xo∧xs≠xo∧xp≠xo∧xm≠xo→w.heap.size≤xo→Out V A xo→V.cell? ⟨xo,0,none⟩=some (.int .i64 0)→
  Calls Tryz.prog 52 #[wp (H.hs o.j),.int .i64 1,.int .i64 1,.func (.func 202) #[] #[wp xk,wp xh,wp xs,wp xp,wp xm,wp xo]] V fun y w'=>∃x c,y=.returned (aH c)∧w'.cell? ⟨xo,0,none⟩=some (.int .i64 x)∧w'.frozen? ⟨xo,0,none⟩=false∧(w'.setCell ⟨xo,0,none⟩ (.int .i64 x)).cell? ⟨xo,0,none⟩=some (.int .i64 x)∧Aside (∃S',MF S o n s path pr mk x c S'∧∃A',KN (w'.setCell ⟨xo,0,none⟩ (.int .i64 x)) m H S' (q+1) A'∧Stp w (w'.setCell ⟨xo,0,none⟩ (.int .i64 x)) A A'):=fun V xk xh xs xp xm xo bV bx hne hxo hout hz=>by
  have hxl:xo<V.heap.size:=World.block_lt_of_cell? V _ hz
  refine (KX.oG (h.below bV) ho (n:=1) ⟨by omega,by omega⟩ (fn:=202) (lb:=#[wp xk,wp xh,wp xs,wp xp,wp xm,wp xo]) (fun args w=>by kernel_rfl) (X:=fun i=>i=xo) (fun i hi=>by rw [hi];exact hxl) (Q:=fun c D' N' w2=>∃x,iG S.D (ax S o.j) n s path pr mk x c D' N'∧w2.cell? ⟨xo,0,none⟩=some (.int .i64 x)∧w2.frozen? ⟨xo,0,none⟩=false) ?_ ?_).mono ?_
  ·rintro c D' N' w2 w3 ⟨x,h1,h4,h5⟩ g
   have hk:w3.heap[xo]? = w2.heap[xo]? := g.block xo (World.block_lt_of_cell? w2 _ h4) (fun e=>by
    have:=hout.1
    have e2:=Option.some.inj e
    have hA:=h.1
    obtain ⟨G,k,hκ⟩:=hA
    exact this ((hκ xo).2 (by rw [e2,k.k5 p o ho];omega)))
   exact ⟨x,h1,by rw [World.cell?_of_block (w:=w2) (a:=⟨xo,0,none⟩) hk];exact h4,by rw [World.frozen?_of_block (w:=w2) (a:=⟨xo,0,none⟩) hk];exact h5⟩
  ·intro V1 k1 st1
   refine (k1.Xv ho hq hN hs path hp pr mk (bx.nV st1) (hout.nV st1) hne).mono ?_
   rintro y w2 ⟨x,c,D',N',rfl,hF,hc,A2,hout2,k2,st2⟩
   obtain ⟨u1,u2⟩:=Jo (h.1.sJ o.j) h.1.inv.core.ja.n0 hF
   refine ⟨_,_,_,rfl,⟨x,hF,hc,hout2.2.2.2.2.1⟩,fun e=>?_,fun e=>?_,A2,fun i hi=>by rw [hi];exact hout2.1,k2,st2⟩
   ·rw [u1 e];rfl
   ·exact ⟨(u2 e).2.1,(u2 e).2.2⟩
  ·rintro y w2 ⟨c,rfl,hR⟩
   rcases hR with ⟨hc,rfl,A2,k2,st2⟩|⟨hc,D',N',⟨x,hF,h4,h5⟩,A2,nA,k2,st2⟩
   ·have ho2:=hout.nV st2
    have hz2:w2.cell? ⟨xo,0,none⟩=some (.int .i64 0):=(st2.bg hz hout.1).1
    exact ⟨0,4,rfl,hz2,ho2.2.2.2.2.1,ho2.got _,S,.inl ⟨hc,rfl,rfl,rfl⟩,A2,(k2.more (by omega)).box ho2 _,(st2.after bV).boxed hxo _⟩
   ·have ho2:Out w2 A2 xo:=⟨nA xo rfl,hout.2.1,hout.2.2.1,hout.2.2.2.1,h5,_,h4⟩
    exact ⟨x,c,rfl,h4,h5,ho2.got _,_,.inr ⟨hc,D',N',hF,rfl⟩,A2,k2.box ho2 _,(Stp.inner bV st2 (fun i hi=>by rw [hi];exact hxo)).boxed hxo _⟩
 have hF:=fun W (hb:Below w.heap.size w W)=>(h.1.below hb).aB ho
 have hA:=h.1.lt
 have hO:=fun V (hb:Below w.heap.size w V) x v hx hc hf=>h.1.Mo (V:=V) hb (x:=x) hx (v:=v) hc hf
 have HP:Aside _:=hpay
 have HF:Aside _:=hF
 have HO:Aside _:=hO
 clear h ho hpay hF hO hN hs hp hq
 go_enter Tryz.func107,Tryz.ntmps107
 go_upto_region 1 with fail
 obtain ⟨b3,s3,c1,c2,c3⟩:=yB w (wp H.kb) (tx path) (.int .i64 pr) 25 9 3
 generalize ((w.alloc (.cells #[wp H.kb] 25)).alloc (.cells #[tx path] 9)).alloc (.cells #[.int .i64 pr] 3)=W3 at *
 obtain ⟨b5,s5,c4,c5⟩:=qZ W3 (.bool mk) (.int .i64 0) 4 3
 have f5:=(gQ (W3.alloc (.cells #[.bool mk] 4)) (.int .i64 0) 3).2.2.2
 rw [(gQ W3 (.bool mk) 4).2.1] at f5
 rw [s3] at s5 c4 c5 f5
 have c1':=aV b5 c1
 have c2':=aV b5 c2
 have c3':=aV b5 c3
 generalize (W3.alloc (.cells #[.bool mk] 4)).alloc (.cells #[.int .i64 0] 3)=W at *
 have bW:Below w.heap.size w W:=b3.trans (b5.mono b3.size)
 have hF:=HF.out W bW
 clear HF c1 c2 c3
 go_upto_region 4 with (go_at_call 51;refine hF.mono ?_;rintro e w1 ⟨rfl,hw⟩;subst w1)
 obtain ⟨b6,s6,c6,_⟩:=gQ W (wp (H.hs o.j)) 99
 rw [s5] at c6
 have d1:=aV b6 c1'
 have d2:=aV b6 c2'
 have d3:=aV b6 c3'
 have d4:=aV b6 c4
 have d5:=aV b6 c5
 have f6:=dN b6 (World.block_lt_of_cell? W _ c5) f5
 generalize W.alloc (.cells #[wp (H.hs o.j)] 99)=V at *
 have bV:Below w.heap.size w V:=bW.trans (b6.mono bW.size)
 have hP:=HP.out V w.heap.size (w.heap.size+1+1+1+1+1) (w.heap.size+1) (w.heap.size+1+1) (w.heap.size+1+1+1) (w.heap.size+1+1+1+1) bV (fun y hy=>by
  have hn:∀i,w.heap.size≤i→¬A i:=fun i hi z=>by have:=hA i z;omega
  simp only [List.mem_cons,List.not_mem_nil,or_false] at hy
  rcases hy with rfl|rfl|rfl|rfl|rfl
  ·exact ⟨d1,hn _ (Nat.le_refl _)⟩
  ·exact ⟨c6,hn _ (by omega)⟩
  ·exact ⟨d2,hn _ (by omega)⟩
  ·exact ⟨d3,hn _ (by omega)⟩
  ·exact ⟨d4,hn _ (by omega)⟩) ⟨by omega,by omega,by omega,by omega,by omega⟩ (by omega) (HO.out V bV _ _ (by omega) d5 f6) d5
 clear HP HO c1' c2' c3' c4 c5 f5 f6 hF b3 b5 b6 bW bV s3 s5 s6 d1 d2 d3 d4 d5
 go_wp2_with (go_at_call 52;refine hP.mono ?_;rintro e w1 ⟨x,c,rfl,g1,g2,g3,hR⟩)
 obtain ⟨S',hF,hR⟩:=hR.out
 refine bodyPost_ret (v:=.tuple #[.int .i64 x,aH c]) (by simp [results,Tryz.results107,go_sem,g3]) rfl ⟨x,c,S',rfl,hF,hR⟩
end
section
variable {w w' w1 w2 V:World}{m:Int}{H:KH}{S:KS}{U:Nat→Nat→Int}{q:Nat}{G:KG}{A A' X:Nat→Prop}{p:Int}{o:Ow}
theorem CX {x y:Nat}{A':Nat→Prop}(st:Stp w w1 A A') (u v:Value) {X:Nat→Prop}(hX:X x∧X y):Stp w ((w1.setCell ⟨x,0,none⟩ u).setCell ⟨y,0,none⟩ v) (sD A X) (sD A' X):=
 ⟨⟨st.wt.os,st.wt.tape,st.wt.output,by simpa [World.setCell] using st.wt.size,fun i hi hn=>by
  rw [Below.heap_setCell _ _ _ _ (fun e=>hn (.inr (by simp only at e;rw [e];exact hX.2))),Below.heap_setCell _ _ _ _ (fun e=>hn (.inr (by simp only at e;rw [e];exact hX.1)))]
  exact st.wt.block i hi (fun z=>hn (.inl z))⟩,fun i hi=>by
  rcases hi with z|z
  ·rcases st.own i z with y|y
   ·exact .inl (.inl y)
   ·exact .inr y
  ·exact .inl (.inr z)⟩
theorem KX.Xh (h:KX w m H S U q A) (ho:S.O p=some o) (hq:q≤200) {n:Nat}(hN:qR S.D.E n) {xk xh xa xb:Nat}(hb:pR w A [(xk,wp H.kb),(xh,wp (H.hs o.j))]) (hxa:Out w A xa) (hxb:Out w A xb) (hne:xk≠xa∧xh≠xa∧xk≠xb∧xh≠xb∧xa≠xb) :
 Calls Tryz.prog 53 #[wp xk,wp xh,wp xa,wp xb] w fun y w'=>∃x y9 c D' N',y=.returned (aH c)∧qc S.D (ax S o.j) n x y9 c D' N'∧(w'.cell? ⟨xa,0,none⟩=some (.int .i64 x)∧w'.cell? ⟨xb,0,none⟩=some (.int .i64 y9)∧∃A',Out w' A' xa∧Out w' A' xb∧KX w' m H (S.files D' o.j N') U (q+1) A'∧Stp w w' (sD A (fun i=>i=xa∨i=xb)) (sD A' (fun i=>i=xa∨i=xb))):=by
 have cells:∀ {w':World}{A':Nat→Prop}{S':KS}{q':Nat},KX w' m H S' U q' A'→S'.O p=some o→pR w' A' [(xk,wp H.kb),(xh,wp (H.hs o.j))]→w'.cell? ⟨xk,0,none⟩=some (wp H.kb)∧w'.cell? ⟨H.kb,2,none⟩=some (wp H.f)∧w'.cell? ⟨xh,0,none⟩=some (wp (H.hs o.j))∧w'.cell? ⟨H.hs o.j,1,none⟩=some (wp (H.tb o.j)):=fun h' ho' b'=>
  ⟨(b' (xk,_) (by simp)).1,h'.c2,(b' (xh,_) (by simp)).1,(h'.hd ho').at 1⟩
 have c0:=cells h ho hb
 have hM:Calls Tryz.prog 54 #[wp H.f,wp (H.tb o.j)] w.drew fun y w'=>∃x y9 c,y=.returned (.tuple #[.int .i64 x,.int .i64 y9,aH c])∧(w'.cell? ⟨xk,0,none⟩=some (wp H.kb)∧w'.cell? ⟨H.kb,2,none⟩=some (wp H.f)∧w'.cell? ⟨xh,0,none⟩=some (wp (H.hs o.j))∧w'.cell? ⟨H.hs o.j,1,none⟩=some (wp (H.tb o.j)))∧(w'.frozen? ⟨xa,0,none⟩=false∧w'.frozen? ⟨xb,0,none⟩=false)∧(∃v,w'.cell? ⟨xa,0,none⟩=some v)∧(∃v,w'.cell? ⟨xb,0,none⟩=some v)∧(∃v,(w'.setCell ⟨xa,0,none⟩ (.int .i64 x)).cell? ⟨xb,0,none⟩=some v)∧(∃v,(w'.setCell ⟨xb,0,none⟩ (.int .i64 y9)).cell? ⟨xa,0,none⟩=some v)∧((w'.setCell ⟨xa,0,none⟩ (.int .i64 x)).cell? ⟨xk,0,none⟩=some (wp H.kb)∧(w'.setCell ⟨xa,0,none⟩ (.int .i64 x)).cell? ⟨H.kb,2,none⟩=some (wp H.f)∧(w'.setCell ⟨xa,0,none⟩ (.int .i64 x)).cell? ⟨xh,0,none⟩=some (wp (H.hs o.j))∧(w'.setCell ⟨xa,0,none⟩ (.int .i64 x)).cell? ⟨H.hs o.j,1,none⟩=some (wp (H.tb o.j)))∧((w'.setCell ⟨xb,0,none⟩ (.int .i64 y9)).cell? ⟨xk,0,none⟩=some (wp H.kb)∧(w'.setCell ⟨xb,0,none⟩ (.int .i64 y9)).cell? ⟨H.kb,2,none⟩=some (wp H.f)∧(w'.setCell ⟨xb,0,none⟩ (.int .i64 y9)).cell? ⟨xh,0,none⟩=some (wp (H.hs o.j))∧(w'.setCell ⟨xb,0,none⟩ (.int .i64 y9)).cell? ⟨H.hs o.j,1,none⟩=some (wp (H.tb o.j)))∧(((w'.setCell ⟨xa,0,none⟩ (.int .i64 x)).setCell ⟨xb,0,none⟩ (.int .i64 y9)).cell? ⟨xk,0,none⟩=some (wp H.kb)∧((w'.setCell ⟨xa,0,none⟩ (.int .i64 x)).setCell ⟨xb,0,none⟩ (.int .i64 y9)).cell? ⟨H.kb,2,none⟩=some (wp H.f)∧((w'.setCell ⟨xa,0,none⟩ (.int .i64 x)).setCell ⟨xb,0,none⟩ (.int .i64 y9)).cell? ⟨xh,0,none⟩=some (wp (H.hs o.j))∧((w'.setCell ⟨xa,0,none⟩ (.int .i64 x)).setCell ⟨xb,0,none⟩ (.int .i64 y9)).cell? ⟨H.hs o.j,1,none⟩=some (wp (H.tb o.j)))∧(((w'.setCell ⟨xb,0,none⟩ (.int .i64 y9)).setCell ⟨xa,0,none⟩ (.int .i64 x)).cell? ⟨xk,0,none⟩=some (wp H.kb)∧((w'.setCell ⟨xb,0,none⟩ (.int .i64 y9)).setCell ⟨xa,0,none⟩ (.int .i64 x)).cell? ⟨H.kb,2,none⟩=some (wp H.f)∧((w'.setCell ⟨xb,0,none⟩ (.int .i64 y9)).setCell ⟨xa,0,none⟩ (.int .i64 x)).cell? ⟨xh,0,none⟩=some (wp (H.hs o.j))∧((w'.setCell ⟨xb,0,none⟩ (.int .i64 y9)).setCell ⟨xa,0,none⟩ (.int .i64 x)).cell? ⟨H.hs o.j,1,none⟩=some (wp (H.tb o.j)))∧
  Aside (∃D' N',qc S.D (ax S o.j) n x y9 c D' N'∧(((w'.setCell ⟨xa,0,none⟩ (.int .i64 x)).setCell ⟨xb,0,none⟩ (.int .i64 y9)).cell? ⟨xa,0,none⟩=some (.int .i64 x)∧((w'.setCell ⟨xa,0,none⟩ (.int .i64 x)).setCell ⟨xb,0,none⟩ (.int .i64 y9)).cell? ⟨xb,0,none⟩=some (.int .i64 y9)∧∃A',Out ((w'.setCell ⟨xa,0,none⟩ (.int .i64 x)).setCell ⟨xb,0,none⟩ (.int .i64 y9)) A' xa∧Out ((w'.setCell ⟨xa,0,none⟩ (.int .i64 x)).setCell ⟨xb,0,none⟩ (.int .i64 y9)) A' xb∧KX ((w'.setCell ⟨xa,0,none⟩ (.int .i64 x)).setCell ⟨xb,0,none⟩ (.int .i64 y9)) m H (S.files D' o.j N') U (q+1) A'∧Stp w ((w'.setCell ⟨xa,0,none⟩ (.int .i64 x)).setCell ⟨xb,0,none⟩ (.int .i64 y9)) (sD A (fun i=>i=xa∨i=xb)) (sD A' (fun i=>i=xa∨i=xb)))∧(((w'.setCell ⟨xb,0,none⟩ (.int .i64 y9)).setCell ⟨xa,0,none⟩ (.int .i64 x)).cell? ⟨xa,0,none⟩=some (.int .i64 x)∧((w'.setCell ⟨xb,0,none⟩ (.int .i64 y9)).setCell ⟨xa,0,none⟩ (.int .i64 x)).cell? ⟨xb,0,none⟩=some (.int .i64 y9)∧∃A',Out ((w'.setCell ⟨xb,0,none⟩ (.int .i64 y9)).setCell ⟨xa,0,none⟩ (.int .i64 x)) A' xa∧Out ((w'.setCell ⟨xb,0,none⟩ (.int .i64 y9)).setCell ⟨xa,0,none⟩ (.int .i64 x)) A' xb∧KX ((w'.setCell ⟨xb,0,none⟩ (.int .i64 y9)).setCell ⟨xa,0,none⟩ (.int .i64 x)) m H (S.files D' o.j N') U (q+1) A'∧Stp w ((w'.setCell ⟨xb,0,none⟩ (.int .i64 y9)).setCell ⟨xa,0,none⟩ (.int .i64 x)) (sD A (fun i=>i=xa∨i=xb)) (sD A' (fun i=>i=xa∨i=xb)))):=by
  refine ((h.below (bG w)).Xg (h.qh ho) hq hN).mono ?_
  rintro y w' ⟨D',N',⟨x,y9,c,rfl,hP⟩,A',h',st⟩
  have st':Stp w w' A A':=Stp.base (V:=w.drew) rfl rfl rfl rfl st
  have ha':=hxa.nV st'
  have Pj:=hxb.nV st'
  have hb':=hb.nV st'
  have nea:∀y∈[(xk,wp H.kb),(xh,wp (H.hs o.j))],(y:Nat×Value).1≠xa:=fun y hy=>by
   simp at hy
   rcases hy with rfl|rfl<;>first|exact hne.1|exact hne.2.1
  have neb:∀y∈[(xk,wp H.kb),(xh,wp (H.hs o.j))],(y:Nat×Value).1≠xb:=fun y hy=>by
   simp at hy
   rcases hy with rfl|rfl<;>first|exact hne.2.2.1|exact hne.2.2.2.1
  have ka:=h'.box ha' (.int .i64 x)
  have kb:=h'.box Pj (.int .i64 y9)
  have kab:=ka.box (Pj.set (y:=xa) (.int .i64 x)) (.int .i64 y9)
  have kba:=kb.box (ha'.set (y:=xb) (.int .i64 y9)) (.int .i64 x)
  have ba:=hb'.set (x:=xa) nea (.int .i64 x)
  have bb:=hb'.set (x:=xb) neb (.int .i64 y9)
  have bab:=ba.set (x:=xb) neb (.int .i64 y9)
  have bba:=bb.set (x:=xa) nea (.int .i64 x)
  refine ⟨x,y9,c,rfl,cells h' ho hb',⟨ha'.2.2.2.2.1,Pj.2.2.2.2.1⟩,ha'.2.2.2.2.2,Pj.2.2.2.2.2,(Pj.set (y:=xa) (.int .i64 x)).2.2.2.2.2,(ha'.set (y:=xb) (.int .i64 y9)).2.2.2.2.2,cells ka ho ba,cells kb ho bb,cells kab ho bab,cells kba ho bba,D',N',hP,⟨iW (ha'.got _) hne.2.2.2.2 _,(Pj.set _).got _,A',(ha'.set _).set _,(Pj.set _).set _,kab,CX st' _ _ ⟨.inl rfl,.inr rfl⟩⟩,⟨(ha'.set _).got _,iW (Pj.got _) (Ne.symm hne.2.2.2.2) _,A',(ha'.set _).set _,(Pj.set _).set _,kba,CX st' _ _ ⟨.inr rfl,.inl rfl⟩⟩⟩
 clear h ho cells hb hxa hxb hN
 go_enter Tryz.func53,Tryz.ntmps53
 go_upto_region 1 with fail
 go_region_held3 (fun w'=>w'.cell? ⟨xk,0,none⟩=some (wp H.kb)∧w'.cell? ⟨H.kb,2,none⟩=some (wp H.f)∧w'.cell? ⟨xh,0,none⟩=some (wp (H.hs o.j))∧w'.cell? ⟨H.hs o.j,1,none⟩=some (wp (H.tb o.j))) (first|exact c0|exact c1|exact c3|exact c4|exact c5|exact c6) (first
  |(go_at_call 54;refine hM.mono ?_;rintro e w1 ⟨x,y9,c,rfl,c1,⟨f1,f2⟩,⟨v1,hv1⟩,⟨v2,hv2⟩,⟨v3,hv3⟩,⟨v4,hv4⟩,c3,c4,c5,c6,hR⟩))
 all_goals
  clear c0 c1 c3 c4 c5 c6 hM f1 f2 hv1 hv2 hv3 hv4
  go_wp2_with fail
  go_ret
  obtain ⟨D',N',hP,r1,r2⟩:=hR.out
  first
   |exact ⟨x,y9,c,D',N',rfl,hP,r1⟩
   |exact ⟨x,y9,c,D',N',rfl,hP,r2⟩
def vV (S:KS) (o:Ow) (n:Nat) (x y c:Int) (S':KS):Prop:=(¬lW S o 2∧x=0∧y=0∧c=4∧S'=S)∨(lW S o 2∧∃D' N',qc S.D (ax S o.j) n x y c D' N'∧S'=S.files D' o.j N')
theorem KN.wJ (h:KN w m H S q A) (ho:S.O p=some o) (hq:q≤200) {n:Nat}(hN:qR S.D.E n) :
 Calls Tryz.prog 13 #[wp H.kb,.int .i64 p] w fun y w'=>∃x y9 c S',y=.returned (.tuple #[.int .i64 x,.int .i64 y9,aH c])∧vV S o n x y9 c S'∧∃A',KN w' m H S' (q+1) A'∧Stp w w' A A':=by
 have hpay:∀(V:World) (xk xh xa xb:Nat),Below w.heap.size w V→pR V A [(xk,wp H.kb),(xh,wp (H.hs o.j))]→xk≠xa∧xh≠xa∧xk≠xb∧xh≠xb∧xa≠xb→w.heap.size≤xa∧w.heap.size≤xb→Out V A xa→Out V A xb→V.cell? ⟨xa,0,none⟩=some (.int .i64 0)→V.cell? ⟨xb,0,none⟩=some (.int .i64 0)→
  Calls Tryz.prog 52 #[wp (H.hs o.j),.int .i64 1,.int .i64 2,.func (.func 53) #[] #[wp xk,wp xh,wp xa,wp xb]] V fun y w'=>∃x y9 c,y=.returned (aH c)∧(w'.cell? ⟨xa,0,none⟩=some (.int .i64 x)∧w'.cell? ⟨xb,0,none⟩=some (.int .i64 y9)∧w'.frozen? ⟨xa,0,none⟩=false∧w'.frozen? ⟨xb,0,none⟩=false)∧Aside (∀W:World,W.heap=w'.heap→W.os=w'.os→W.tape=w'.tape→W.output=w'.output→(((W.setCell ⟨xa,0,none⟩ (.int .i64 x)).setCell ⟨xb,0,none⟩ (.int .i64 y9)).cell? ⟨xa,0,none⟩=some (.int .i64 x)∧((W.setCell ⟨xa,0,none⟩ (.int .i64 x)).setCell ⟨xb,0,none⟩ (.int .i64 y9)).cell? ⟨xb,0,none⟩=some (.int .i64 y9)∧Aside (∃S',vV S o n x y9 c S'∧∃A',KN ((W.setCell ⟨xa,0,none⟩ (.int .i64 x)).setCell ⟨xb,0,none⟩ (.int .i64 y9)) m H S' (q+1) A'∧Stp w ((W.setCell ⟨xa,0,none⟩ (.int .i64 x)).setCell ⟨xb,0,none⟩ (.int .i64 y9)) A A'))∧(((W.setCell ⟨xb,0,none⟩ (.int .i64 y9)).setCell ⟨xa,0,none⟩ (.int .i64 x)).cell? ⟨xa,0,none⟩=some (.int .i64 x)∧((W.setCell ⟨xb,0,none⟩ (.int .i64 y9)).setCell ⟨xa,0,none⟩ (.int .i64 x)).cell? ⟨xb,0,none⟩=some (.int .i64 y9)∧Aside (∃S',vV S o n x y9 c S'∧∃A',KN ((W.setCell ⟨xb,0,none⟩ (.int .i64 y9)).setCell ⟨xa,0,none⟩ (.int .i64 x)) m H S' (q+1) A'∧Stp w ((W.setCell ⟨xb,0,none⟩ (.int .i64 y9)).setCell ⟨xa,0,none⟩ (.int .i64 x)) A A'))):=fun V xk xh xa xb bV bx hne hxo Pn TP hz hy=>by
  have hxl:xa<V.heap.size:=World.block_lt_of_cell? V _ hz
  have hyl:xb<V.heap.size:=World.block_lt_of_cell? V _ hy
  have fin:∀(w2:World) (x y9 c:Int) (S':KS) (A2:Nat→Prop),w2.cell? ⟨xa,0,none⟩=some (.int .i64 x)→w2.cell? ⟨xb,0,none⟩=some (.int .i64 y9)→vV S o n x y9 c S'→KN w2 m H S' (q+1) A2→Stp w w2 A A2→Out w2 A2 xa→Out w2 A2 xb→∀W:World,W.heap=w2.heap→W.os=w2.os→W.tape=w2.tape→W.output=w2.output→(((W.setCell ⟨xa,0,none⟩ (.int .i64 x)).setCell ⟨xb,0,none⟩ (.int .i64 y9)).cell? ⟨xa,0,none⟩=some (.int .i64 x)∧((W.setCell ⟨xa,0,none⟩ (.int .i64 x)).setCell ⟨xb,0,none⟩ (.int .i64 y9)).cell? ⟨xb,0,none⟩=some (.int .i64 y9)∧Aside (∃S',vV S o n x y9 c S'∧∃A',KN ((W.setCell ⟨xa,0,none⟩ (.int .i64 x)).setCell ⟨xb,0,none⟩ (.int .i64 y9)) m H S' (q+1) A'∧Stp w ((W.setCell ⟨xa,0,none⟩ (.int .i64 x)).setCell ⟨xb,0,none⟩ (.int .i64 y9)) A A'))∧(((W.setCell ⟨xb,0,none⟩ (.int .i64 y9)).setCell ⟨xa,0,none⟩ (.int .i64 x)).cell? ⟨xa,0,none⟩=some (.int .i64 x)∧((W.setCell ⟨xb,0,none⟩ (.int .i64 y9)).setCell ⟨xa,0,none⟩ (.int .i64 x)).cell? ⟨xb,0,none⟩=some (.int .i64 y9)∧Aside (∃S',vV S o n x y9 c S'∧∃A',KN ((W.setCell ⟨xb,0,none⟩ (.int .i64 y9)).setCell ⟨xa,0,none⟩ (.int .i64 x)) m H S' (q+1) A'∧Stp w ((W.setCell ⟨xb,0,none⟩ (.int .i64 y9)).setCell ⟨xa,0,none⟩ (.int .i64 x)) A A')):=fun w2 x y9 c S' A2 ca cb hP k2 st2 oa ob W e1 e2 e3 e4=>by
   have bW:Below w2.heap.size w2 W:=⟨e2,e3,e4,by rw [e1];exact Nat.le_refl _,fun i _=>by rw [e1]⟩
   have kW:=k2.below bW
   have Z7:Stp w W A A2:=st2.up e1 e2 e3 e4
   have XJ:=oa.nV (.below bW)
   have XI:=ob.nV (.below bW)
   refine ⟨⟨iW (XJ.got _) hne.2.2.2.2 _,(XI.set _).got _,S',hP,A2,(kW.box XJ _).box (XI.set _) _,(Z7.boxed hxo.1 _).boxed hxo.2 _⟩,⟨(XJ.set _).got _,iW (XI.got _) (Ne.symm hne.2.2.2.2) _,S',hP,A2,(kW.box XI _).box (XJ.set _) _,(Z7.boxed hxo.2 _).boxed hxo.1 _⟩⟩
  have Ti:∀ {w2 w3:World}{z:Nat}{v:Value},Out V A z→w2.cell? ⟨z,0,none⟩=some v→w2.grownBy w3 (some (H.hs o.j))→w3.heap[z]? = w2.heap[z]? := fun hz9 h4 g=>g.block _ (World.block_lt_of_cell? _ _ h4) (fun e=>by
   have:=hz9.1
   have e2:=Option.some.inj e
   obtain ⟨G,k,hκ⟩:=h.1
   exact this ((hκ _).2 (by rw [e2,k.k5 p o ho];omega)))
  refine (KX.oG (h.below bV) ho (n:=2) ⟨by omega,by omega⟩ (fn:=53) (lb:=#[wp xk,wp xh,wp xa,wp xb]) (fun args w=>by kernel_rfl) (X:=(fun i=>i=xa∨i=xb)) (fun i hi=>by rcases hi with rfl|rfl<;>assumption) (Q:=fun c D' N' w2=>∃x y9,qc S.D (ax S o.j) n x y9 c D' N'∧w2.cell? ⟨xa,0,none⟩=some (.int .i64 x)∧w2.cell? ⟨xb,0,none⟩=some (.int .i64 y9)∧w2.frozen? ⟨xa,0,none⟩=false∧w2.frozen? ⟨xb,0,none⟩=false) ?_ ?_).mono ?_
  ·rintro c D' N' w2 w3 ⟨x,y9,h1,h4,h5,h6,h7⟩ g
   have ka:=Ti Pn h4 g
   have kb:=Ti TP h5 g
   exact ⟨x,y9,h1,by rw [World.cell?_of_block (w:=w2) (a:=⟨xa,0,none⟩) ka];exact h4,by rw [World.cell?_of_block (w:=w2) (a:=⟨xb,0,none⟩) kb];exact h5,by rw [World.frozen?_of_block (w:=w2) (a:=⟨xa,0,none⟩) ka];exact h6,by rw [World.frozen?_of_block (w:=w2) (a:=⟨xb,0,none⟩) kb];exact h7⟩
  ·intro V1 k1 st1
   refine (k1.Xh ho hq hN (bx.nV st1) (Pn.nV st1) (TP.nV st1) hne).mono ?_
   rintro y w2 ⟨x,y9,c,D',N',rfl,hP,ca,cb,A2,oa,ob,k2,st2⟩
   obtain ⟨u1,u2⟩:=Jk (h.1.sJ o.j) (fun z hz=>by rw [iD (h.1.qh ho)] at hz;exact h.1.inv.nn (h.1.qh ho) z hz) h.1.inv.core.ja.n0 hP
   refine ⟨_,_,_,rfl,⟨x,y9,hP,ca,cb,oa.2.2.2.2.1,ob.2.2.2.2.1⟩,fun e=>?_,fun e=>?_,A2,fun i hi=>by
    rcases hi with rfl|rfl
    ·exact oa.1
    ·exact ob.1,k2,st2⟩
   ·rw [u1 e];rfl
   ·exact ⟨(u2 e).2.2.1,(u2 e).2.2.2⟩
  ·rintro y w2 ⟨c,rfl,hR⟩
   rcases hR with ⟨hc,rfl,A2,k2,st2⟩|⟨hc,D',N',⟨x,y9,hP,h4,h5,h6,h7⟩,A2,nA,k2,st2⟩
   ·have oa:=Pn.nV st2
    have ob:=TP.nV st2
    have za:w2.cell? ⟨xa,0,none⟩=some (.int .i64 0):=(st2.bg hz Pn.1).1
    have zb:w2.cell? ⟨xb,0,none⟩=some (.int .i64 0):=(st2.bg hy TP.1).1
    exact ⟨0,0,4,rfl,⟨za,zb,oa.2.2.2.2.1,ob.2.2.2.2.1⟩,fin w2 0 0 4 S A2 za zb (.inl ⟨hc,rfl,rfl,rfl,rfl⟩) (k2.more (by omega)) (st2.after bV) oa ob⟩
   ·have oa:Out w2 A2 xa:=⟨nA xa (.inl rfl),Pn.2.1,Pn.2.2.1,Pn.2.2.2.1,h6,_,h4⟩
    have ob:Out w2 A2 xb:=⟨nA xb (.inr rfl),TP.2.1,TP.2.2.1,TP.2.2.2.1,h7,_,h5⟩
    exact ⟨x,y9,c,rfl,⟨h4,h5,h6,h7⟩,fin w2 x y9 c _ A2 h4 h5 (.inr ⟨hc,D',N',hP,rfl⟩) k2 (Stp.inner bV st2 (fun i hi=>by rcases hi with rfl|rfl;exact hxo.1;exact hxo.2)) oa ob⟩
 have hF:=fun W (hb:Below w.heap.size w W)=>(h.1.below hb).aB ho
 have hA:=h.1.lt
 have hO:=fun V (hb:Below w.heap.size w V) x v hx hc hf=>h.1.Mo (V:=V) hb (x:=x) hx (v:=v) hc hf
 have HP:Aside _:=hpay
 have HF:Aside _:=hF
 have HO:Aside _:=hO
 clear h ho hpay hF hO hN hq
 go_enter Tryz.func13,Tryz.ntmps13
 go_upto_region 1 with fail
 obtain ⟨b3,s3,c1,c2,c3⟩:=yB w (wp H.kb) (.int .i64 0) (.int .i64 0) 25 3 3
 have f3:=(gQ ((w.alloc (.cells #[wp H.kb] 25)).alloc (.cells #[.int .i64 0] 3)) (.int .i64 0) 3).2.2.2
 rw [(qZ w (wp H.kb) (.int .i64 0) 25 3).2.1] at f3
 have f2:(((w.alloc (.cells #[wp H.kb] 25)).alloc (.cells #[.int .i64 0] 3)).alloc (.cells #[.int .i64 0] 3)).frozen? ⟨w.heap.size+1,0,none⟩=false:=by
  have:=(gQ (w.alloc (.cells #[wp H.kb] 25)) (.int .i64 0) 3).2.2.2
  rw [(gQ w (wp H.kb) 25).2.1] at this
  exact dN ((Below.refl _ _).alloc (Nat.le_refl _) _) (by rw [(qZ w (wp H.kb) (.int .i64 0) 25 3).2.1];omega) this
 generalize ((w.alloc (.cells #[wp H.kb] 25)).alloc (.cells #[.int .i64 0] 3)).alloc (.cells #[.int .i64 0] 3)=W at *
 have hF:=HF.out W b3
 clear HF
 go_upto_region 4 with (go_at_call 51;refine hF.mono ?_;rintro e w1 ⟨rfl,hw⟩;subst w1)
 obtain ⟨b4,s4,c4,_⟩:=gQ W (wp (H.hs o.j)) 99
 rw [s3] at c4
 have d1:=aV b4 c1
 have d2:=aV b4 c2
 have d3:=aV b4 c3
 have f4:=dN b4 (World.block_lt_of_cell? W _ c3) f3
 have f5:=dN b4 (World.block_lt_of_cell? W _ c2) f2
 generalize W.alloc (.cells #[wp (H.hs o.j)] 99)=V at *
 have bV:Below w.heap.size w V:=b3.trans (b4.mono b3.size)
 have hP:=HP.out V w.heap.size (w.heap.size+1+1+1) (w.heap.size+1) (w.heap.size+1+1) bV (fun y hy=>by
  have hn:∀i,w.heap.size≤i→¬A i:=fun i hi z=>by have:=hA i z;omega
  simp only [List.mem_cons,List.not_mem_nil,or_false] at hy
  rcases hy with rfl|rfl
  ·exact ⟨d1,hn _ (Nat.le_refl _)⟩
  ·exact ⟨c4,hn _ (by omega)⟩) ⟨by omega,by omega,by omega,by omega,by omega⟩ ⟨by omega,by omega⟩ (HO.out V bV _ _ (by omega) d2 f5) (HO.out V bV _ _ (by omega) d3 f4) d2 d3
 clear HP HO c1 c2 c3 f2 f3 f4 f5 hF b3 b4 bV s3 s4 d1 d2 d3
 go_upto_region 5 with (go_at_call 52;refine hP.mono ?_;rintro e w1 ⟨x,y9,c,rfl,⟨g1,g2,g3,g4⟩,hR⟩)
 clear hP c4
 have ya:=World.cell?_setCell_same w1 ⟨w.heap.size+1,0,none⟩ (.int .i64 x) g1
 have yb:=World.cell?_setCell_same w1 ⟨w.heap.size+1+1,0,none⟩ (.int .i64 y9) g2
 obtain ⟨⟨_,Z6,_⟩,⟨Z5,_,_⟩⟩:=hR.out w1 rfl rfl rfl rfl
 have YA:Aside _:=ya
 have YB:Aside _:=yb
 have YAB:Aside _:=Z6
 have YBA:Aside _:=Z5
 clear ya yb Z6 Z5
 go_region
 all_goals
  go_wp2_with fail
  obtain ⟨⟨z1,z2,z3⟩,⟨z4,z5,z6⟩⟩:=hR.out w1.drew rfl rfl rfl rfl
  first
   |(obtain ⟨S',hF,hR⟩:=z3.out
     refine bodyPost_ret (v:=.tuple #[.int .i64 x,.int .i64 y9,aH c]) (by simp [results,Tryz.results13,go_sem,YA.out,YAB.out]) rfl ⟨x,y9,c,S',rfl,hF,hR⟩)
   |(obtain ⟨S',hF,hR⟩:=z6.out
     refine bodyPost_ret (v:=.tuple #[.int .i64 x,.int .i64 y9,aH c]) (by simp [results,Tryz.results13,go_sem,z4,z5,YA.out,YB.out,YAB.out,YBA.out]) rfl ⟨x,y9,c,S',rfl,hF,hR⟩)
end
end Go.Proofs.YtcfhanoekniaaaaGreatDoor

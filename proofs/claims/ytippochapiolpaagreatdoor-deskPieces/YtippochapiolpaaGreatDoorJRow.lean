/- slices.IndexFunc and slices.DeleteFunc at numbers, by their Go text: the function that they ask may make memory. -/
import Derived.Test.YtippochapiolpaaGreatDoorSKeys
import Derived.Shelf.SlicesE.DeleteFunc
import Derived.Deep.LoopGhost
import Derived.Sort.LoopGhostIn
import Derived.Deep.Light
import Derived.Laws.IdiomCopy
import Derived.Laws.Rows
import Derived.Lib.SlKeysI
set_option maxHeartbeats 4000000
set_option maxRecDepth 100000
namespace Go.Proofs.YtippochapiolpaaGreatDoor
open Go.RowKit Go.Maps Go.Sort Go.Shelf Go.Lib
def LG (f:Nat) (lb:Array Value) (p:Int→Bool) (Ok:World→Prop) (L:List Int):Prop:=
 ∀W x,Ok W→x∈L→Calls Tryz.prog f (#[.int .i64 x] ++ lb) W fun e w'=>e=.returned (.bool (p x))∧Below W.heap.size W w'
section
variable {w w':World}{b cap f:Nat}{lb:Array Value}{p:Int→Bool}{Ok:World→Prop}{L:List Int}
theorem MM (ef:∀args w,(callFunc f args).run Tryz.prog w=.ok (.enter f args) w) (hp:LG f lb p Ok L) (hk:∀W,Below w.heap.size w W→Ok W) (hl:L.length≤1000) (hb:b<w.heap.size) (hc:∀j,j<L.length→w.cell? ⟨b,j,none⟩=some (.int .i64 L[j]!)) :
 Calls Tryz.prog 270 #[.slice (some ⟨b,0,none⟩) L.length cap,.func (.func f) #[] lb] w fun e w'=>e=.returned (.int .i64 (idxBy (fun _ y=>p y) L default))∧Below w.heap.size w w':=by
 have HP:Aside (LG f lb p Ok L):=hp
 have HK:Aside (∀W,Below w.heap.size w W→Ok W):=hk
 have HC:Aside (∀j,j<L.length→w.cell? ⟨b,j,none⟩=some (.int .i64 L[j]!)):=hc
 clear hp hk hc
 go_enter Tryz.func270,Tryz.ntmps270
 go_wp2_with fail
 go_loopg [5,8] L.length (fun gg _ s8 wr=>∃kk:Nat,kk≤L.length∧L.length-kk≤gg∧s8=.int .i64 kk∧Below w.heap.size w wr∧Aside (∀j,j<kk→p L[j]! = false))
 case atStart=>exact ⟨0,Nat.zero_le _,by omega,rfl,Below.refl _ _,fun j hj=>absurd hj (Nat.not_lt_zero _)⟩
 case round=>
  obtain ⟨kk,hkk,hg,rfl,hbel,A⟩:=hrel
  by_cases hlt:kk<L.length
  ·have hltz:(kk:Int)<(L.length:Int):=by omega
   have hcell:wr.cell? ⟨b,kk,none⟩=some (.int .i64 L[kk]!):=by rw [hbel.cell (p:=⟨b,kk,none⟩) hb];exact HC.out kk hlt
   have hmem:L[kk]! ∈ L:=by rw [getElem!_pos L kk hlt];exact List.getElem_mem hlt
   have hcall:=HP.out wr L[kk]! (HK.out wr hbel) hmem
   generalize hy:L[kk]! = y at hcell hcall
   have B:Aside (L[kk]! = y):=hy
   clear hy hmem
   cases hq:p y with
   |true=>
    rw [hq] at hcall
    go_wp2_with (go_at_fn f;refine hcall.mono ?_;rintro e w' ⟨rfl,hb2⟩)
    go_ret
    refine ⟨?_,hbel.trans (hb2.mono hbel.size)⟩
    have:=Lib.idxBy_hit (fun _ y=>p y) L L.length kk default hlt (Nat.le_refl _) (by show p L[kk]! = true;rw [B.out];exact hq) A.out
    rw [List.take_length] at this
    rw [this]
    rfl
   |false=>
    rw [hq] at hcall
    go_wp2_with (go_at_fn f;refine hcall.mono ?_;rintro e w' ⟨rfl,hb2⟩)
    go_roundg (L.length-(kk+1))
    case measure=>omega
    case rel=>
     refine ⟨kk+1,by omega,by omega,by go_num,hbel.trans (hb2.mono hbel.size),(show Aside _ from fun j hj=>?_)⟩
     by_cases e:j=kk
     ·subst e
      rw [B.out];exact hq
     ·exact A.out j (by omega)
  ·have hltz:¬(kk:Int)<(L.length:Int):=by omega
   have hz:kk=L.length:=by omega
   have HZ:Aside (kk=L.length):=hz
   clear hz
   go_wp2_with fail
   go_ret
   refine ⟨?_,hbel⟩
   have:=Lib.idxBy_miss (fun _ y=>p y) L kk default A.out
   rw [HZ.out,List.take_length] at this
   have h9:idxBy (fun _ y=>p y) L 0=-1:=this
   first|rw [h9] | rw [this]
   rfl
theorem pI {d:Array Int}(h:Holds encZ w b 0 d) (hb:w'.heap[b]? = w.heap[b]?):Holds encZ w' b 0 d:=fun j hj=>by
 rw [World.cell?_of_block (w:=w) (a:=⟨b,0+j,none⟩) hb,World.frozen?_of_block (w:=w) (a:=⟨b,0+j,none⟩) hb]
 exact h j hj
theorem Pz {d:Array Int}(h:Holds encZ w b 0 d) {i:Nat}(hi:i<d.size) (u:Int):Holds encZ (w.setCell ⟨b,i,none⟩ (.int .i64 u)) b 0 (d.setIfInBounds i u):=fun j hj=>by
 have hj':j<d.size:=by simpa using hj
 rw [World.frozen?_setCell]
 refine ⟨?_,(h j hj').2⟩
 rw [Nat.zero_add]
 by_cases e:j=i
 ·subst e
  rw [World.cell?_setCell_same _ _ _ (u:=encZ d[j]!) (by have:=(h j hj').1;rw [Nat.zero_add] at this;exact this)]
  rw [getElem!_pos (d.setIfInBounds j u) j hj,Array.getElem_setIfInBounds_self]
 ·rw [World.cell?_setCell_other _ _ _ _ (fun z=>e (by injection z with _ z;exact z.symm))]
  have:=(h j hj').1
  rw [Nat.zero_add] at this
  rw [this,getElem!_pos (d.setIfInBounds i u) j hj,Array.getElem_setIfInBounds_ne _ (fun z=>e z.symm),getElem!_pos d j hj']
theorem FY (b:Nat):∀(vs:List Value) (o:Nat) (w:World),Wt (fun i=>i=b) w (w.setCells b o vs)
 | [],o,w=>⟨rfl,rfl,rfl,Nat.le_refl _,fun _ _ _=>rfl⟩
 |v :: vs,o,w=>Wt.trans (w1:=w.setCell ⟨b,o,none⟩ v) ⟨rfl,rfl,rfl,by simp,fun m _ hne=>heap_setCell_other _ _ _ _ hne⟩ (FY b vs (o+1) _)
theorem Yf (ef:∀args w,(callFunc f args).run Tryz.prog w=.ok (.enter f args) w) (hp:LG f lb p Ok L) (hk:∀W,Wt (fun i=>i=b) w W→Ok W) (hl:L.length≤1000) (hcap:L.length≤cap) (hb:b<w.heap.size) (hH:Holds encZ w b 0 L.toArray) :
 Calls Tryz.prog 207 #[.slice (some ⟨b,0,none⟩) L.length cap,.func (.func f) #[] lb] w fun e w'=>e=.returned (.slice (some ⟨b,0,none⟩) (L.filter fun x=>!p x).length cap)∧(∀j (hj:j<(L.filter fun x=>!p x).length),w'.cell? ⟨b,j,none⟩=some (.int .i64 (L.filter fun x=>!p x)[j]))∧Wt (fun i=>i=b) w w':=by
 have hIF:=MM (w:=w) (b:=b) (cap:=cap) ef hp (fun W hW=>hk W (.below _ hW)) hl hb (fun j hj=>by
  have:=(hH j (by simpa using hj)).1
  rw [Nat.zero_add] at this
  rw [this,getElem!_pos L j hj,getElem!_pos L.toArray j (by simpa using hj)]
  simp)
 obtain ⟨kp,HK⟩:∃kp:Nat→Bool,Hid (kp=fun j=>!p L.toArray[j]!):=⟨_,rfl⟩
 have hfil:(L.filter fun x=>!p x)=keptUpTo kp L.toArray L.toArray.size:=by
  rw [HK.out];exact (keptUpTo_filter (fun x=>!p x) L.toArray).symm
 have tl:∀j,j<L.length→L[j]! = L.toArray[j]! := fun j hj=>by rw [getElem!_pos L j hj,getElem!_pos L.toArray j (by simpa using hj)];simp
 have HKO:Aside (∀W,Wt (fun i=>i=b) w W→Ok W):=hk
 have HP:Aside (LG f lb p Ok L):=hp
 have hself:Wt (fun i=>i=b) w w:=⟨rfl,rfl,rfl,Nat.le_refl _,fun _ _ _=>rfl⟩
 have acL:L.toArray.size=L.length:=by simp
 have hgl:∀W,Wt (fun i=>i=b) w W→b<W.heap.size:=fun W hW=>Nat.lt_of_lt_of_le hb hW.size
 clear hk hp
 rcases idxByFrom_spec (fun _ y=>p y) default L 0 with ⟨e1,hall⟩|⟨k0,hk0,e1,ht,hall⟩
 ·have e2:Lib.idxBy (fun _ y=>p y) L default=-1:=e1
  rw [e2] at hIF
  have hkeep:∀j,j<L.toArray.size→kp j=true:=fun j hj=>by rw [HK.out];show (!p L.toArray[j]!)=true;rw [←tl j (by omega),hall j (by omega)];rfl
  have e3:(L.filter fun x=>!p x)=L:=by rw [hfil,keptUpTo_all kp _ _ hkeep,range_map_get]
  have hfin:∀W,Below w.heap.size w W→(∀j (hj:j<L.length),W.cell? ⟨b,j,none⟩=some (.int .i64 L[j]))∧Wt (fun i=>i=b) w W:=fun W hW=>by
   refine ⟨fun j hj=>?_,.below _ hW⟩
   rw [hW.cell (p:=⟨b,j,none⟩) hb]
   have:=(hH j (by simpa using hj)).1
   rw [Nat.zero_add,←tl j hj,getElem!_pos L j hj] at this
   exact this
  rw [e3]
  clear hH hfil e3 hkeep hall e1 e2 tl hgl hself
  go_enter Tryz.func207,Tryz.ntmps207
  go_wp2_with (go_at_call 270;refine hIF.mono ?_;rintro e w' ⟨rfl,hb1⟩)
  go_ret
  obtain ⟨f1,f2⟩:=hfin _ hb1
  exact ⟨rfl,f1,f2⟩
 ·have e2:Lib.idxBy (fun _ y=>p y) L default=(k0:Int):=by unfold Lib.idxBy;rw [e1];simp
  rw [e2] at hIF
  have hkeep:∀j,j<k0→kp j=true:=fun j hj=>by rw [HK.out];show (!p L.toArray[j]!)=true;rw [←tl j (by omega),hall j hj];rfl
  have hdrop:kp k0=false:=by rw [HK.out];show (!p L.toArray[k0]!)=false;rw [←tl k0 hk0,show p L[k0]! = true from ht];rfl
  have hne1:((k0:Int) == -1)=false:=beq_eq_false_iff_ne.2 (by omega)
  have HH:Aside (Holds encZ w b 0 L.toArray):=hH
  have HFI:Aside ((L.filter fun x=>!p x)=keptUpTo kp L.toArray L.toArray.size):=hfil
  have HTL:Aside (∀j,j<L.length→L[j]! = L.toArray[j]!):=tl
  have VF:Aside (L.toArray.size=L.length):=acL
  have HGL:Aside (∀W,Wt (fun i=>i=b) w W→b<W.heap.size):=hgl
  clear hH hall ht e1 e2 hfil tl acL hgl
  go_enter Tryz.func207,Tryz.ntmps207
  go_wp2_with (go_at_call 270;refine hIF.mono ?_;rintro e w' ⟨rfl,hb1⟩)
  go_loopg [5,6,7] L.length (fun gg s5 s6 _ wr=>∃(i j:Nat) (dk:Array Int),s5=.int .i64 i∧s6=.int .i64 j∧j≤L.length∧L.length-j≤gg∧Aside (Holds encZ wr b 0 dk)∧Wt (fun i=>i=b) w wr∧Aside (KeptInv kp L.toArray j i dk))
  case atStart=>exact ⟨k0,k0+1,L.toArray,rfl,by go_num,by omega,by omega,pI HH.out (hb1.block b hb),.below _ hb1,KeptInv.start hkeep hdrop⟩
  case round=>
   obtain ⟨i,j,dk,rfl,rfl,hjd,hgg,ZH,hwt,I2⟩:=hrel
   have hI:=I2.out
   have hij:=hI.lt
   have hds:=hI.size
   rw [VF.out] at hds
   by_cases hlt:j<L.length
   ·have hltz:(j:Int)<(L.length:Int):=by omega
    obtain ⟨cj,_⟩:=ZH.out j (by omega)
    rw [hI.high j (by omega),Nat.zero_add] at cj
    have hmem:L.toArray[j]! ∈ L:=by rw [←HTL.out j hlt,getElem!_pos L j hlt];exact List.getElem_mem hlt
    have hcall:=HP.out wr L.toArray[j]! (HKO.out wr hwt) hmem
    have hbw:=HGL.out wr hwt
    generalize hu:L.toArray[j]! = u at cj hcall
    have C:Aside (L.toArray[j]! = u):=hu
    clear hu hI hmem
    cases hq:p u with
    |false=>
     rw [hq] at hcall
     have hci:∀W,Below wr.heap.size wr W→W.cell? ⟨b,i,none⟩=some (encZ dk[i]!)∧W.frozen? ⟨b,i,none⟩=false:=fun W hW=>by
      have:=(pI ZH.out (hW.block b hbw)) i (by omega)
      rw [Nat.zero_add] at this
      exact this
     have HCI:Aside (∀W,Below wr.heap.size wr W→W.cell? ⟨b,i,none⟩=some (encZ dk[i]!)∧W.frozen? ⟨b,i,none⟩=false):=hci
     clear hci
     go_wp2_with (go_at_fn f;refine hcall.mono ?_;rintro e w2 ⟨rfl,hb2⟩;obtain ⟨ci,fi⟩:=HCI.out w2 hb2;unfold encZ at ci)
     go_roundg (L.length-(j+1))
     case measure=>omega
     case rel=>
      refine ⟨i+1,j+1,dk.setIfInBounds i u,by go_num,by go_num,by omega,Nat.le_refl _,(show Aside _ from Pz (pI ZH.out (hb2.block b hbw)) (by omega) u),?_,(show Aside _ from ?_)⟩
      ·exact (hwt.trans (.below _ hb2)).trans ⟨rfl,rfl,rfl,by simp,fun m hm hne=>by rw [heap_setCell_other _ _ _ _ hne]⟩
      ·have:=I2.out.keep (by rw [VF.out];exact hlt) (by rw [HK.out];show (!p L.toArray[j]!)=true;rw [C.out,hq];rfl)
       rwa [C.out] at this
    |true=>
     rw [hq] at hcall
     go_wp2_with (go_at_fn f;refine hcall.mono ?_;rintro e w2 ⟨rfl,hb2⟩)
     go_roundg (L.length-(j+1))
     case measure=>omega
     case rel=>exact ⟨i,j+1,dk,rfl,by go_num,by omega,Nat.le_refl _,pI ZH.out (hb2.block b hbw),hwt.trans (.below _ hb2),I2.out.skip (by rw [HK.out];show (!p L.toArray[j]!)=false;rw [C.out,hq];rfl)⟩
   ·obtain rfl:j=L.length:=by omega
    have hltz:¬(L.length:Int)<(L.length:Int):=by omega
    have hcl:∀ty,(Builtin.clear_ #[46] ty #[.slice (some ⟨b,i,none⟩) (L.length-i) (cap-i)]).run Tryz.prog wr=.ok (.tuple #[]) (wr.setCells b i (List.replicate (L.length-i) (.int .i64 0))):=
     fun ty=>Lib.run_clear_slice wr _ _ ty _ Tryz.underlying46 (fun _=>Tryz.zeroValue3 _) rfl rfl b i _ _ (by omega) (fun t ht=>by have:=(ZH.out (i+t) (by omega)).1;rw [Nat.zero_add] at this;rw [this];rfl) (fun t ht=>by have:=(ZH.out (i+t) (by omega)).2;rw [Nat.zero_add] at this;exact this)
    have hlen:(L.filter fun x=>!p x).length=i:=by rw [HFI.out,VF.out];exact hI.len
    have hfin:(∀j (hj:j<(L.filter fun x=>!p x).length),(wr.setCells b i (List.replicate (L.length-i) (.int .i64 0))).cell? ⟨b,j,none⟩=some (.int .i64 (L.filter fun x=>!p x)[j]))∧Wt (fun i=>i=b) w (wr.setCells b i (List.replicate (L.length-i) (.int .i64 0))):=by
     refine ⟨fun m hm=>?_,?_⟩
     ·rw [World.cell?_setCells_out b _ _ _ _ (fun _ _=>.inl (by show m<i;omega))]
      have h1:=(ZH.out m (by omega)).1
      rw [Nat.zero_add] at h1
      rw [h1]
      have h2:=hI.low m (by omega)
      have h3:(L.filter fun x=>!p x)[m]? = some dk[m]! := by rw [HFI.out,VF.out];exact h2
      rw [List.getElem?_eq_getElem hm] at h3
      rw [Option.some.inj h3]
     ·refine hwt.trans ?_
      exact FY b _ i wr
    have HLE:Aside _:=hlen
    have hic:(i:Int)≤(cap:Int):=by omega
    clear hI hwt hlen
    go_wp2_with fail
    go_ret
    exact ⟨by rw [HLE.out];rfl,hfin.1,hfin.2⟩
end
end Go.Proofs.YtippochapiolpaaGreatDoor

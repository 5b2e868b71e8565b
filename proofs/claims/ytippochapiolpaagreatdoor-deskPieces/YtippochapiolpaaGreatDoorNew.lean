/- Ours. -/
import Derived.ProofKit
import Derived.Deep.MidRow
import Derived.Test.YtippochapiolpaaGreatDoorRows
import Derived.WalkLawsBesides
set_option maxHeartbeats 1000000
namespace Go.Proofs.YtippochapiolpaaGreatDoor
open Go.Proofs.Tryz(prog)
open Go.RowKit
theorem hide{p:Prop}(h:p):Hid p:=h
structure Mem (w:World) (b s n:Nat) (D:Nat->Nat->Int):Prop where
 head:w.cell? ⟨b,0,none⟩=some (.slice (some ⟨s,0,none⟩) n n)
 ne:b≠s
 word:∀f k,f<n->k<8->w.cell? ⟨s,f*8+k,none⟩=some (.int .i64 (D f k))
 live:∀f k,f<n->k<8->w.frozen? ⟨s,f*8+k,none⟩=false
def upd(D:Nat->Nat->Int)(f k:Nat)(v:Int):Nat->Nat->Int:=fun i j=>if i=f/\j=k then v else D i j
def row(D:Nat->Nat->Int)(f:Nat)(R:Nat->Int):Nat->Nat->Int:=fun i j=>if i=f then R j else D i j
def eight(R:Nat->Int):List Value:=[.int .i64 (R 0),.int .i64 (R 1),.int .i64 (R 2),.int .i64 (R 3),.int .i64 (R 4),.int .i64 (R 5),.int .i64 (R 6),.int .i64 (R 7)]
theorem P5(R:Nat->Int)(k:Nat)(h:k<8):(eight R)[k]? = some (.int .i64 (R k)):=by
 match k,h with
 |0,_|1,_|2,_|3,_|4,_|5,_|6,_|7,_=>rfl
theorem rM(R:Nat->Int):(eight R).length=8:=rfl
theorem PZ(R:Nat->Int):∀v∈eight R,v.oneCell'=true:=by
 intro v a;simp only[eight,List.mem_cons,List.not_mem_nil,or_false] at a;rcases a with h|h|h|h|h|h|h|h<;>subst h<;>rfl
theorem Mem.set{w:World}{b s n:Nat}{D:Nat->Nat->Int}(m:Mem w b s n D)(f k:Nat)(g:f<n)(d:k<8)(v:Int):Mem (w.setCell ⟨s,f*8+k,none⟩ (.int .i64 v)) b s n (upd D f k v):=by
 refine⟨?_,m.ne,fun i j c a=>?_,fun i j c a=>?_⟩
 ·rw[World.cell?_setCell_other _ _ _ _ (by intro e;exact m.ne (congrArg Addr.block e).symm)];exact m.head
 ·by_cases e:i=f/\j=k
  ·obtain⟨rfl,rfl⟩:=e;rw[World.cell?_setCell_same _ _ _ (m.word i j c a)];simp[upd]
  ·rw[World.cell?_setCell_other _ _ _ _ (by intro h;simp only[Addr.mk.injEq,true_and,and_true] at h;omega),m.word i j c a];simp[upd,e]
 ·rw[World.frozen?_setCell];exact m.live i j c a
theorem Mem.there{w:World}{b s n:Nat}{D:Nat->Nat->Int}(m:Mem w b s n D)(f:Nat)(c:f<n):w.there s (f*8) 8:=by
 intro j a;exact⟨by rw[m.word f j c a];rfl,m.live f j c a⟩
theorem Mem.put{w:World}{b s n:Nat}{D:Nat->Nat->Int}(m:Mem w b s n D)(f:Nat)(g:f<n)(R:Nat->Int):Mem (w.setCells s (f*8) (eight R)) b s n (row D f R):=by
 refine⟨?_,m.ne,fun i j c a=>?_,fun i j c a=>?_⟩
 ·rw[World.cell?_setCells_out s _ _ w ⟨b,0,none⟩ (fun h _=>absurd h m.ne)];exact m.head
 ·by_cases e:i=f
  ·subst e;rw[World.cell?_setCells_in s _ (i*8) w (fun q d=>(m.there i c q (by simpa[rM] using d)).1) j (by simpa[rM] using a)];have:=P5 R j a;rw[List.getElem?_eq_getElem (by simpa[rM] using a)] at this;simp only[row,if_pos];exact this
  ·rw[World.cell?_setCells_out s _ _ w ⟨s,i*8+j,none⟩ (fun _ _=>by
    rw[rM];show i*8+j<f*8\/f*8+8<=i*8+j;omega),m.word i j c a]
   simp[row,e]
 ·rw[World.frozen?_setCells];exact m.live i j c a
theorem Below.setCells{B:Nat}{a:World}(b:Nat)(c:B<=b):∀(d:List Value) (o:Nat) (w:World),Below B a w->Below B a (w.setCells b o d)
 | [],_,_,h=>h
 |v::r,o,w,h=>by
  rw[World.setCells];exact Below.setCells b c r (o+1) _ (h.setCell c v)
theorem CV(w:World)(b o:Nat)(v:Value):w.grownBy (w.setCell ⟨b,o,none⟩ v) (some b):=
 ⟨rfl,rfl,rfl,by simp[World.setCell],fun k _ h=>Below.heap_setCell _ _ _ _ (fun e=>h (by rw[e]))⟩
theorem tN(b:Nat):∀(d:List Value) (o:Nat) (w:World),w.grownBy (w.setCells b o d) (some b)
 | [],_,w=>World.grownBy.refl w _
 |v::r,o,w=>by
  rw[World.setCells];have h:=CV w b o v;have k:=tN b r (o+1) (w.setCell ⟨b,o,none⟩ v);exact⟨k.os.trans h.os,k.tape.trans h.tape,k.output.trans h.output,Nat.le_trans h.size k.size,fun i c a=>(k.block i (Nat.lt_of_lt_of_le c h.size) a).trans (h.block i c a)⟩
theorem Mem.keep{w w':World}{b s n:Nat}{D:Nat->Nat->Int}(m:Mem w b s n D)(g:w'.heap[b]? = w.heap[b]?)(e:w'.heap[s]? = w.heap[s]?):Mem w' b s n D:=
 ⟨by rw[World.cell?_of_block (w:=w) (a:=⟨b,0,none⟩) g];exact m.head,m.ne,
  fun f k d c=>by rw[World.cell?_of_block (w:=w) (a:=⟨s,f*8+k,none⟩) e];exact m.word f k d c,
  fun f k d c=>by rw[World.frozen?_of_block (w:=w) (a:=⟨s,f*8+k,none⟩) e];exact m.live f k d c⟩
theorem Mem.ach{w:World}{b s n:Nat}{D:Nat->Nat->Int}(m:Mem w b s n D):b<w.heap.size:=World.block_lt_of_cell? w _ m.head
theorem Mem.acg{w:World}{b s n:Nat}{D:Nat->Nat->Int}(m:Mem w b s n D)(a:0<n):s<w.heap.size:=World.block_lt_of_cell? w _ (m.word 0 0 a (by omega))
abbrev mp(b:Nat):Value:=.pointer (some ⟨b,0,none⟩)
abbrev refused:Value:=.iface 25 (.int .i64 2)
theorem aaW{w:World}{b s n:Nat}{D:Nat->Nat->Int}(m:Mem w b s n D)(f k:Int)(j:0<=f)(d:f<n)(h:0<=k)(c:k<8):Calls prog 242 #[mp b,.int .i64 f,.int .i64 k] w fun e a=>e=.returned (.tuple #[.int .i64 (D f.toNat k.toNat),.nilIface])/\a=w:=by
 have i:=m.head;have g:=m.word f.toNat k.toNat (by omega) (by omega);go_enter Tryz.func242,Tryz.ntmps242
 go_wp2;go_ret2;exact⟨rfl,rfl⟩
theorem Mc{w:World}{b s n:Nat}{D:Nat->Nat->Int}(m:Mem w b s n D)(f k v:Int)(l:0<=f)(d:f<n)(i:0<=k)(c:k<8):Calls prog 262 #[mp b,.int .i64 f,.int .i64 k,.int .i64 v] w fun e a=>e=.returned .nilIface/\Mem a b s n (upd D f.toNat k.toNat v)/\Below s w a/\w.grownBy a (some s):=by
 have j:=m.head;have g:=m.word f.toNat k.toNat (by omega) (by omega);have h:=m.live f.toNat k.toNat (by omega) (by omega);go_enter Tryz.func262,Tryz.ntmps262
 go_wp2;go_ret;exact⟨rfl,m.set _ _ (by omega) (by omega) v,(Below.refl s w).setCell (p:=⟨s,_,none⟩) (Nat.le_refl s) _,CV _ _ _ _⟩
theorem VK{w:World}{b s n:Nat}{D:Nat->Nat->Int}(m:Mem w b s n D)(f:Int)(h:0<=f)(d:f<n):Calls prog 315 #[mp b,.int .i64 f] w fun e a=>e=.returned .nilIface/\Mem a b s n (row D f.toNat fun _=>0)/\Below s w a/\w.grownBy a (some s):=by
 have g:=m.head;have c:=m.there f.toNat (by omega);go_enter Tryz.func315,Tryz.ntmps315
 go_wp2_with (first|go_in|(refine wpList_store_mid rfl 338 _ _ rfl s (f.toNat*8) (eight fun _=>0).toArray rfl rfl c (by kernel_rfl) (all_oneCell_toArray (PZ _)) ?_))
 go_ret;exact⟨rfl,m.put _ (by omega) _,Below.setCells s (Nat.le_refl s) _ _ w (Below.refl s w),tN _ _ _ _⟩
theorem AZ(w:World)(s o:Nat)(R:Nat->Int):w.setCells s o (eight R)=
 (((((((w.setCell ⟨s,o,none⟩ (.int .i64 (R 0))).setCell ⟨s,o+1,none⟩ (.int .i64 (R 1))).setCell ⟨s,o+2,none⟩ (.int .i64 (R 2))).setCell ⟨s,o+3,none⟩ (.int .i64 (R 3))).setCell ⟨s,o+4,none⟩ (.int .i64 (R 4))).setCell ⟨s,o+5,none⟩ (.int .i64 (R 5))).setCell ⟨s,o+6,none⟩ (.int .i64 (R 6))).setCell ⟨s,o+7,none⟩ (.int .i64 (R 7)):=rfl
theorem KE{w w':World}{r:Option Nat}(h:w.grownBy w' r):w.grownBy w'.drew r:=⟨h.os,h.tape,h.output,h.size,h.block⟩
theorem Mem.drew{w:World}{b s n:Nat}{D:Nat->Nat->Int}(m:Mem w b s n D):Mem w.drew b s n D:=m.keep rfl rfl
theorem Yd{w:World}{b s n:Nat}{D:Nat->Nat->Int}(m:Mem w b s n D)(f g:Int)(y:0<=f)(j:f<n)(x:0<=g)(i:g<n):Calls prog 316 #[mp b,.int .i64 f,.int .i64 g] w fun e c=>e=.returned .nilIface/\Mem c b s n (row D f.toNat (D g.toNat))/\Below s w c/\w.grownBy c (some s):=by
 have v:=m.head;have P:w.cell? ⟨s,g.toNat*8,none⟩=some (.int .i64 (D g.toNat 0)):=m.word g.toNat 0 (by omega) (by omega);have O:=m.word g.toNat 1 (by omega) (by omega);have N:=m.word g.toNat 2 (by omega) (by omega);have M:=m.word g.toNat 3 (by omega) (by omega);have L:=m.word g.toNat 4 (by omega) (by omega);have K:=m.word g.toNat 5 (by omega) (by omega);have J:=m.word g.toNat 6 (by omega) (by omega);have I:=m.word g.toNat 7 (by omega) (by omega);have H:w.cell? ⟨s,f.toNat*8,none⟩=some (.int .i64 (D f.toNat 0)):=m.word f.toNat 0 (by omega) (by omega);have G:=m.word f.toNat 1 (by omega) (by omega);have F:=m.word f.toNat 2 (by omega) (by omega);have E:=m.word f.toNat 3 (by omega) (by omega);have C:=m.word f.toNat 4 (by omega) (by omega);have B:=m.word f.toNat 5 (by omega) (by omega);have A:=m.word f.toNat 6 (by omega) (by omega);have z:=m.word f.toNat 7 (by omega) (by omega);have u:w.frozen? ⟨s,f.toNat*8,none⟩=false:=m.live f.toNat 0 (by omega) (by omega);have t:=m.live f.toNat 1 (by omega) (by omega);have r:=m.live f.toNat 2 (by omega) (by omega);have q:=m.live f.toNat 3 (by omega) (by omega);have p:=m.live f.toNat 4 (by omega) (by omega);have o:=m.live f.toNat 5 (by omega) (by omega);have l:=m.live f.toNat 6 (by omega) (by omega);have k:=m.live f.toNat 7 (by omega) (by omega);go_enter Tryz.func316,Tryz.ntmps316
 go_wp2
 go_region
 go_wp2;go_ret;have a:=Mem.put m f.toNat (by omega) (D g.toNat);have d:=Below.setCells s (Nat.le_refl s) (eight (D g.toNat)) (f.toNat*8) w (Below.refl s w);have h:=tN s (eight (D g.toNat)) (f.toNat*8) w;rw[AZ] at a d h;exact⟨rfl,a.drew,d.drew,KE h⟩
def blank(n:Nat):Array Value:=madeCells (eight fun _=>0).toArray (n*8)
theorem U3(n f k:Nat)(e:f<n)(d:k<8):(blank n)[f*8+k]? = some (.int .i64 0):=by
 have a:f*8+k<n*8:=by omega
 have c:(f*8+k) % 8=k:=by omega
 have b:(eight fun _=>0).toArray.size=8:=rfl;unfold blank madeCells;rw[Array.getElem?_map,Array.getElem?_range,if_pos a,Option.map_some,b,c]
 match k,d with
 |0,_|1,_|2,_|3,_|4,_|5,_|6,_|7,_=>rfl
theorem Xj(w:World)(n:Nat):Mem ((w.alloc (.cells (blank n) 338)).alloc (.cells #[.slice (some ⟨w.heap.size,0,none⟩) n n] 155)) (w.heap.size+1) w.heap.size n (fun _ _=>0):=by
 have d:((w.alloc (.cells (blank n) 338)).alloc (.cells #[.slice (some ⟨w.heap.size,0,none⟩) n n] 155)).heap[w.heap.size+1]? = some (.cells #[.slice (some ⟨w.heap.size,0,none⟩) n n] 155):=by
  show ((w.heap.push (.cells (blank n) 338)).push _)[w.heap.size+1]? = _;rw[Array.getElem?_push,if_pos (by simp)]
 have c:((w.alloc (.cells (blank n) 338)).alloc (.cells #[.slice (some ⟨w.heap.size,0,none⟩) n n] 155)).heap[w.heap.size]? = some (.cells (blank n) 338):=by
  show ((w.heap.push (.cells (blank n) 338)).push _)[w.heap.size]? = _;rw[Array.getElem?_push,if_neg (by simp),Array.getElem?_push,if_pos rfl]
 refine⟨?_,by omega,fun f k b a=>?_,fun f k b a=>?_⟩
 ·rw[cell_of_row _ _ 0 _ _ _ d];rfl
 ·rw[cell_of_row _ _ _ _ _ _ c,U3 n f k b a]
 ·simp[World.frozen?,c]
theorem Xf(w:World)(n:Int)(m:1<=n)(l:n<=256):Calls prog 35 #[.int .i64 n] w fun e c=>∃b,e=.returned (.tuple #[mp b,.nilIface])/\∃s,Mem c b s n.toNat (fun _ _=>0)/\w.heap.size<=s/\w.heap.size<=b/\Below w.heap.size w c:=by
 obtain⟨i,g,d,f,h⟩:=info_parts (P:=prog) (e:=338) (z:=.agg (eight fun _=>0).toArray) (size:=8) (bytes:=64) (by kernel_rfl);have j:∀a:World,(Instr.makeSlice 153 (.int .i64 n) (.int .i64 n)).run prog a=.ok (.slice (some ⟨a.heap.size,0,none⟩) n.toNat n.toNat) (a.alloc (.cells (blank n.toNat) 338)):=by
  intro a;have:=run_make (P:=prog) a 153 338 i _ Tryz.underlying153 g d .i64 .i64 n n (by omega) (by omega) (by rw[h];omega) (by omega);rw[f] at this;exact this
 clear g d f h;have k:¬n<1:=by omega
 go_enter Tryz.func35,Tryz.ntmps35
 go_wp2;go_ret2;exact⟨_,rfl,_,Xj w n.toNat,Nat.le_refl _,Nat.le_succ _,((Below.refl _ w).alloc (Nat.le_refl _) _).alloc (by simp) _⟩
theorem aaD(w:World)(n:Int)(h:¬(1<=n/\n<=256)):Calls prog 35 #[.int .i64 n] w fun e a=>e=.returned (.tuple #[.pointer none,refused])/\a=w:=by
 by_cases c:n<1<;>by_cases b:256<n
 all_goals first
  |(exfalso;omega)
  |(clear h
    go_enter Tryz.func35,Tryz.ntmps35
    go_wp2;go_ret2;exact⟨rfl,rfl⟩)
end Go.Proofs.YtippochapiolpaaGreatDoor

/- The greatest number that was given: what each call makes of it. -/
import Derived.Test.YtjkneekfijibiabGreatDoorDOps
import Derived.Test.YtjkneekfijibiabGreatDoorDAbs
import Derived.Deep.RegionHeld3
import Derived.Test.YtjkneekfijibiabGreatDoorUHold
import Derived.Test.YtjkneekfijibiabGreatDoorRows
import Derived.WalkLawsBesides
import Derived.Outline
import Derived.RegionTactic
import Derived.ChangeAlike
import Derived.BigQuiet
import Derived.Deep.QuietTactic
namespace Go.Proofs.YtjkneekfijibiabGreatDoor
open Go.RowKit Go.Maps

section
variable {D : DS}
theorem nx_close (D : DS) (d : Int) : (closeK D d).nx = D.nx := by
  unfold closeK
  split
  · split
    · rfl
    · split <;> rfl
  · rfl
theorem nx_free (all : Bool) (D : DS) (N : Ns) : ∀ i, (freeS all D N i).1.nx = D.nx
  | 0 => rfl
  | i + 1 => by
    rw [freeS]
    split
    · simp only; rw [nx_close]; exact nx_free all D N i
    · exact nx_free all D N i
theorem nx_file {N : Ns} {n s : Nat} {p : List UInt8} {pr : Int} {mk : Bool} {x c : Int} {D' : DS} {N' : Ns} (h : FileO D N n s p pr mk x c D' N') : D'.nx ≤ D.nx + 3 := by
  cases h <;> (try simp only [addD]) <;> omega
theorem nx_pipe {N : Ns} {n : Nat} {x y c : Int} {D' : DS} {N' : Ns} (h : PipeO D N n x y c D' N') : D'.nx ≤ D.nx + 3 := by
  rcases h with ⟨_, _, _, _, rfl, _⟩ | ⟨_, _, _, _, rfl, _⟩
  · omega
  · simp only [pipeD, pipeD1, pipeD0, addD]; omega
theorem nx_dup (D : DS) (N : Ns) (x : Int) : (dupD D N x).nx = D.nx := by unfold dupD; split <;> rfl
theorem nx_dup2 (D : DS) (N : Ns) (x y : Int) : (dup2D D N x y).nx = D.nx := by
  unfold dup2D
  split
  · split
    · rfl
    · rw [nx_close]; rfl
  · rfl
theorem nx_closeD (D : DS) (N : Ns) (x : Int) : (closeD D N x).nx = D.nx := by
  unfold closeD
  split
  · rw [nx_close]
  · rfl
theorem nx_seek (D : DS) (N : Ns) (x a : Int) : (seekD D N x a).nx = D.nx := by
  unfold seekD
  split
  · split <;> rfl
  · rfl
theorem nx_read (D : DS) (N : Ns) (x a : Int) : (readO D N x a).2.2.nx = D.nx := by
  unfold readO
  split
  · split
    · rfl
    · split
      · rfl
      · split
        · rfl
        · split <;> rfl
  · rfl
theorem nx_write (D : DS) (N : Ns) (x : Int) (s : List UInt8) (a : Int) : (writeO D N x s a).2.2.nx = D.nx := by
  unfold writeO
  split
  · split
    · rfl
    · split
      · rfl
      · split
        · split
          · rfl
          · split <;> rfl
        · split <;> rfl
  · rfl
end
end Go.Proofs.YtjkneekfijibiabGreatDoor

namespace Go.Proofs.YtjkneekfijibiabGreatDoor
open Go.RowKit Go.Maps

/-- The program's table at block b: keys, and marks. -/
structure QT (w : World) (b : Nat) (M : Ns) : Prop where
  blk : w.heap[b]? = some (.cells (nv M).toArray 69)
  len : M.length = 8
  pos : ∀ x ∈ M, 0 ≤ x.1 ∧ x.1 < 100000 ∧ (x.1 = 0 → x.2 = false)
/-- A number, free where there is none. -/
def atM (M : Ns) (n : Int) : Int × Bool := if 0 ≤ n ∧ n ≤ 7 then M.getD n.toNat (0, false) else (0, false)
abbrev nuv (x : Int × Bool) : Value := .agg #[.int .i64 x.1, .bool x.2]
theorem atM_in {M : Ns} (hL : M.length = 8) {i : Nat} (hi : i < 8) : atM M i = M[i]'(by rw [hL]; exact hi) := by
  unfold atM
  rw [if_pos (by omega), getD_in (by rw [hL]; exact hi)]
theorem tab_ne (b : Nat) (w : World) : (binOp BinOp.eql 64 (wp b) (.pointer none)).run Tryz.prog w = .ok (.bool false) w := by kernel_rfl
theorem new_num (w : World) : (w.alloc (.cells #[.int .i64 0, .bool false] 66)).heap[w.heap.size]? = some (.cells #[.int .i64 0, .bool false] 66) := by
  show (w.heap.push _)[w.heap.size]? = _
  rw [Array.getElem?_push, if_pos rfl]
theorem two_set {W : World} {i : Nat} {x y : Value} {t : TypeId} (h : W.heap[i]? = some (.cells #[x, y] t)) (u v : Value) : ((W.setCell ⟨i, 0, none⟩ u).setCell ⟨i, 1, none⟩ v).cell? ⟨i, 0, none⟩ = some u ∧ ((W.setCell ⟨i, 0, none⟩ u).setCell ⟨i, 1, none⟩ v).cell? ⟨i, 1, none⟩ = some v := by
  have h1 := heap_cell_same W i 0 u _ _ _ h
  have h2 := heap_cell_same _ i 1 v _ _ _ h1
  exact ⟨by rw [cell_of_row _ i 0 _ _ _ h2]; rfl, by rw [cell_of_row _ i 1 _ _ _ h2]; rfl⟩
section
variable {w w' : World} {b : Nat} {M : Ns}
theorem QT.keep (h : QT w b M) (hk : w'.heap[b]? = w.heap[b]?) : QT w' b M := ⟨hk.trans h.blk, h.len, h.pos⟩
theorem QT.lt (h : QT w b M) : b < w.heap.size := (Array.getElem?_eq_some_iff.1 h.blk).1
theorem QT.below (h : QT w b M) (hb : Below w.heap.size w w') : QT w' b M := h.keep (hb.block b h.lt)
theorem QT.at (h : QT w b M) {i : Nat} (hi : i < 8) : w.cell? ⟨b, i * 2, none⟩ = some (.int .i64 (M[i]'(by rw [h.len]; exact hi)).1) ∧ w.cell? ⟨b, i * 2 + 1, none⟩ = some (.bool (M[i]'(by rw [h.len]; exact hi)).2) := by
  obtain ⟨e1, e2⟩ := nv_at M i (by rw [h.len]; exact hi)
  rw [cell_of_row _ _ _ _ _ _ h.blk, cell_of_row _ _ _ _ _ _ h.blk]
  rw [Nat.mul_comm]
  exact ⟨by simpa using e1, by simpa using e2⟩
theorem QT.free (h : QT w b M) (o : Nat) : w.frozen? ⟨b, o, none⟩ = false := by
  simp [World.frozen?, h.blk]
theorem QT.nn (h : QT w b M) {i : Nat} (hi : i < M.length) : 0 ≤ M[i].1 ∧ M[i].1 < 100000 ∧ (M[i].1 = 0 → M[i].2 = false) := h.pos _ (List.getElem_mem hi)

set_option maxRecDepth 100000 in
set_option maxHeartbeats 2000000 in
theorem QT.at_ok (h : QT w b M) (n : Int) : Calls Tryz.prog 93 #[wp b, .int .i64 n] w fun e w' => e = .returned (nuv (atM M n)) ∧ Below w.heap.size w w' := by
  have h9 := tab_ne b
  have bA : Below w.heap.size w (w.alloc (.cells #[.int .i64 0, .bool false] 66)) := (Below.refl _ w).alloc (Nat.le_refl _) _
  have hA := h.below bA
  have hn := new_num w
  have hr0 : (w.alloc (.cells #[.int .i64 0, .bool false] 66)).cell? ⟨w.heap.size, 0, none⟩ = some (.int .i64 0) := by rw [cell_of_row _ _ 0 _ _ _ hn]; rfl
  have hr1 : (w.alloc (.cells #[.int .i64 0, .bool false] 66)).cell? ⟨w.heap.size, 1, none⟩ = some (.bool false) := by rw [cell_of_row _ _ 1 _ _ _ hn]; rfl
  have s0 := fun u v => (two_set hn u v).1
  have s1 := fun u v => (two_set hn u v).2
  by_cases hn0 : n < 0
  · rw [show atM M n = (0, false) from if_neg (by omega)]
    clear h hA hn
    go_enter Tryz.func93, Tryz.ntmps93
    go_wp2_with fail
    refine bodyPost_ret (v := .agg #[.int .i64 0, .bool false]) (by simp [results, Tryz.results93, go_sem]) rfl ⟨rfl, ?_⟩
    repeat first | exact Below.refl _ _ | refine Below.alloc ?_ (by first | omega | (simp <;> omega)) _ | refine Below.setCell ?_ (by first | omega | (simp <;> omega)) _
  · by_cases hn8 : 8 ≤ n
    · rw [show atM M n = (0, false) from if_neg (by omega)]
      clear h hA hn
      go_enter Tryz.func93, Tryz.ntmps93
      go_wp2_with fail
      refine bodyPost_ret (v := .agg #[.int .i64 0, .bool false]) (by simp [results, Tryz.results93, go_sem]) rfl ⟨rfl, ?_⟩
      repeat first | exact Below.refl _ _ | refine Below.alloc ?_ (by first | omega | (simp <;> omega)) _ | refine Below.setCell ?_ (by first | omega | (simp <;> omega)) _
    · obtain ⟨i, rfl⟩ : ∃ i : Nat, n = i := ⟨n.toNat, by omega⟩
      have hi : i < 8 := by omega
      rw [atM_in h.len hi]
      obtain ⟨c0, c1⟩ := hA.at hi
      generalize (M[i]'(by rw [h.len]; exact hi)) = x at *
      obtain ⟨X, Y⟩ := x
      simp only at c0 c1
      have hi8 : (i : Int) < 8 := by omega
      clear h hA hn hn0 hn8
      go_enter Tryz.func93, Tryz.ntmps93
      go_wp2_with fail
      refine bodyPost_ret (v := .agg #[.int .i64 X, .bool Y]) (by simp [results, Tryz.results93, go_sem]) rfl ⟨rfl, ?_⟩
      repeat first | exact Below.refl _ _ | refine Below.alloc ?_ (by first | omega | (simp <;> omega)) _ | refine Below.setCell ?_ (by first | omega | (simp <;> omega)) _

set_option maxHeartbeats 1000000 in
theorem isFree_ok (w : World) (X : Int) (Y : Bool) : Calls Tryz.prog 94 #[.agg #[.int .i64 X, .bool Y]] w fun e w' => e = .returned (.bool (X == 0)) ∧ Below w.heap.size w w' := by
  have bA : Below w.heap.size w (w.alloc (.cells #[.int .i64 X, .bool Y] 66)) := (Below.refl _ w).alloc (Nat.le_refl _) _
  obtain ⟨c0, c1⟩ := new_pair w (.int .i64 X) (.bool Y) 66
  go_enter Tryz.func94, Tryz.ntmps94
  go_wp2_with fail
  go_ret
  exact ⟨rfl, bA⟩
theorem hasM {M : Ns} (hL : M.length = 8) (hp : ∀ x ∈ M, 0 ≤ x.1) (n : Int) : hasN M n = !((atM M n).1 == 0) := by
  by_cases hn : 0 ≤ n ∧ n ≤ 7
  · obtain ⟨i, rfl⟩ : ∃ i : Nat, n = i := ⟨n.toNat, by omega⟩
    have hi : i < 8 := by omega
    have hiL : i < M.length := by omega
    rw [atM_in hL hi]
    unfold hasN
    rw [getD_in hiL]
    have := hp _ (List.getElem_mem hiL)
    have e1 : decide ((0 : Int) ≤ (i : Int)) = true := by simp
    have e2 : decide ((i : Int) ≤ 7) = true := by simp; omega
    rw [e1, e2]
    by_cases h0 : M[i].1 = 0
    · rw [h0]; rfl
    · have : (0 : Int) < M[i].1 := by omega
      simp [this, h0]
  · rw [show atM M n = (0, false) from if_neg hn]
    unfold hasN
    have hb : (decide (0 ≤ n) && decide (n ≤ 7)) = false := by
      simp only [Bool.and_eq_false_iff, decide_eq_false_iff_not]; omega
    rw [hb]; rfl

set_option maxRecDepth 100000 in
set_option maxHeartbeats 2000000 in
theorem QT.has_ok (h : QT w b M) (f : Nat) (n : Int) : Calls Tryz.prog 34 #[wp f, wp b, .int .i64 n] w fun e w' => e = .returned (.bool (hasN M n)) ∧ Below w.heap.size w w' := by
  rw [hasM h.len (fun x hx => (h.pos x hx).1) n]
  have hA := h.at_ok n
  generalize atM M n = x at *
  obtain ⟨X, Y⟩ := x
  clear h
  go_enter Tryz.func34, Tryz.ntmps34
  go_wp2_with (first
    | (go_at_call 93; refine hA.mono ?_; rintro e w1 ⟨rfl, b1⟩)
    | (go_at_call 94; refine (isFree_ok _ X Y).mono ?_; rintro e w2 ⟨rfl, b2⟩))
  go_ret
  exact ⟨rfl, b1.trans (b2.mono b1.size)⟩

set_option maxRecDepth 100000 in
set_option maxHeartbeats 2000000 in
theorem QT.used_ok (h : QT w b M) : Calls Tryz.prog 32 #[wp b] w fun e w' => e = .returned (.int .i64 (usedN M : Int)) ∧ Below w.heap.size w w' := by
  have HL : Aside (M.length = 8) := h.len
  go_enter Tryz.func32, Tryz.ntmps32
  go_wp2_with fail
  go_loopg [3, 4, 5] 8 (fun g s3 _ s5 wx => ∃ i : Nat, Aside (i + g = 8) ∧ s3 = .int .i64 (usedN (M.take i) : Int) ∧ s5 = .int .i64 (i : Int) ∧ Below w.heap.size w wx)
  case atStart => exact ⟨0, rfl, rfl, rfl, Below.refl _ _⟩
  case round =>
    obtain ⟨i, HI, rfl, rfl, hb⟩ := hrel
    have hi9 : i ≤ 8 := by have := HI.out; omega
    have hi9' : (i : Int) ≤ 8 := by omega
    by_cases hlt : (i : Int) < 8
    · have hiL : i < M.length := by have := HL.out; omega
      have hA := (h.below hb).at_ok i
      rw [atM_in h.len (by omega)] at hA
      have hnn := (h.nn hiL).1
      have hu := used_take (N := M) (i := i) hiL
      have hul := used_le (M.take i)
      rw [List.length_take] at hul
      obtain ⟨U, hU⟩ : ∃ U, usedN (M.take i) = U := ⟨_, rfl⟩
      obtain ⟨U2, hU2⟩ : ∃ U2, usedN (M.take (i + 1)) = U2 := ⟨_, rfl⟩
      rw [hU, hU2] at hu
      rw [hU] at hul
      have hU9 : (U : Int) ≤ 8 := by omega
      have HU2 : Aside (usedN (M.take (i + 1)) = U2) := hU2
      rw [hU]
      generalize M[i] = x at *
      obtain ⟨X, Y⟩ := x
      simp only at hu hnn
      have hsz := hb.size
      clear hU hU2 h
      by_cases hX : X = 0
      · subst hX
        rw [if_neg (by omega)] at hu
        have HU : Aside (U2 = U) := hu
        clear hu hul hnn
        go_wp2_with (first
          | (go_at_call 93; refine hA.mono ?_; rintro e w1 ⟨rfl, b1⟩)
          | (go_at_call 94; refine (isFree_ok _ 0 Y).mono ?_; rintro e w2 ⟨rfl, b2⟩))
        go_roundg (7 - i)
        case measure => have := HI.out; omega
        case rel => exact ⟨i + 1, (show i + 1 + (7 - i) = 8 by omega), by rw [HU2.out, HU.out], by rfl, hb.trans ((b1.trans (b2.mono b1.size)).mono hsz)⟩
      · rw [if_pos (by omega)] at hu
        have HU : Aside (U2 = U + 1) := hu
        have hX' : (X == 0) = false := by simpa using hX
        clear hu hul hnn hX
        go_wp2_with (first
          | (go_at_call 93; refine hA.mono ?_; rintro e w1 ⟨rfl, b1⟩)
          | (go_at_call 94; refine (isFree_ok _ X Y).mono ?_; rintro e w2 ⟨rfl, b2⟩))
        go_roundg (7 - i)
        case measure => have := HI.out; omega
        case rel => exact ⟨i + 1, (show i + 1 + (7 - i) = 8 by omega), by rw [HU2.out, HU.out]; rfl, by rfl, hb.trans ((b1.trans (b2.mono b1.size)).mono hsz)⟩
    · have e8 : M.take i = M := List.take_of_length_le (by have := HL.out; omega)
      rw [e8]
      go_wp2_with fail
      go_ret
      exact ⟨rfl, hb⟩
end
end Go.Proofs.YtjkneekfijibiabGreatDoor

namespace Go.Proofs.YtjkneekfijibiabGreatDoor
open Go.RowKit Go.Maps

/-- What a block of the program's is. -/
inductive Tag
  | head
  | mp
  | ent (d : Int)
  | pip (p : Int)
  | tree
/-- Where things lie: the tree, the map, which ENTRY a key has, each ENTRY's block, each pipe's. -/
structure QG where
  r : Nat
  gO : Nat
  K : Int → Option Int
  B : Int → Nat
  Q : Int → Nat
  kap : Nat → Option Tag
def pv (g : QG) (e : En) : Value := if e.kind = 1 then .pointer none else wp (g.Q e.pipe)
abbrev ecells (g : QG) (e : En) (c : Int) : Array Value := #[.int .i64 e.kind, .int .i64 e.prot, .int .i64 c, .int .i64 e.node, .int .i64 e.pos, pv g e]
structure QF (w : World) (f : Nat) (D : DS) (g : QG) (n : Nat) : Prop where
  head : w.heap[f]? = some (.cells #[wp g.r, .map (some g.gO)] 144)
  tree : ∃ O, PT w g.r D.T O ∧ ∀ i, O i → g.kap i = some .tree
  map : PMap w g.gO n (fun k => (g.K k).map (fun d => wp (g.B d)))
  ent : ∀ d e, D.E d = some e → ∃ c, D.R d = some c ∧ w.heap[g.B d]? = some (.cells (ecells g e c) 180) ∧ g.kap (g.B d) = some (.ent d)
  key : ∀ k d, g.K k = some d → (D.E d).isSome = true ∧ 0 < k ∧ k < 100000
  has : ∀ d, (D.E d).isSome = true → ∃ k, g.K k = some d
  inj : ∀ k k' d, g.K k = some d → g.K k' = some d → k = k'
  pipe : ∀ p x, D.P p = some x → Tb w (g.Q p) x.2.1 x.2.2 x.1 ∧ g.kap (g.Q p) = some (.pip p)
  tf : g.kap f = some .head
  tm : g.kap g.gO = some .mp
  lt : ∀ i, (g.kap i).isSome = true → i < w.heap.size
/-- A table: keys in memory, ENTRIES. -/
structure QTb (w : World) (b : Nat) (g : QG) (M N : Ns) : Prop where
  tab : QT w b M
  off : g.kap b = none
  len : N.length = 8
  rel : ∀ i (h : i < M.length) (h' : i < N.length), N[i].2 = M[i].2 ∧ ((M[i].1 = 0 ∧ N[i].1 = 0) ∨ (0 < N[i].1 ∧ g.K M[i].1 = some N[i].1))
/-- What stays of where things lie. -/
structure Ext (w : World) (D' : DS) (g g' : QG) : Prop where
  kap : ∀ i, i < w.heap.size → g'.kap i = g.kap i
  key : ∀ k d, g.K k = some d → (D'.E d).isSome = true → g'.K k = some d
  r : g'.r = g.r
/-- What a call leaves. -/
structure QGo (w w' : World) (f : Nat) (D' : DS) (g : QG) (b : Nat) (N' : Ns) : Prop where
  ex : ∃ g' n' M', QF w' f D' g' n' ∧ QTb w' b g' M' N' ∧ Ext w D' g g'
  wt : Wt (fun i => (g.kap i).isSome = true ∨ i = b) w w'

theorem tag_ne {κ : Nat → Option Tag} {i j : Nat} {s t : Tag} (hi : κ i = some s) (hj : κ j = some t) (h : s ≠ t) : i ≠ j := fun e => h (by rw [e] at hi; exact Option.some.inj (hi.symm.trans hj))
theorem tag_off {κ : Nat → Option Tag} {i j : Nat} {s : Tag} (hi : κ i = some s) (hj : κ j = none) : i ≠ j := fun e => by rw [e, hj] at hi; cases hi
section
variable {w w' w2 : World} {f b n : Nat} {D D' : DS} {g g' : QG} {M N N' : Ns} {d k : Int} {e : En}
theorem Ext.refl (w : World) (D : DS) (g : QG) : Ext w D g g := ⟨fun _ _ => rfl, fun _ _ h _ => h, rfl⟩
theorem QF.k0 (h : QF w f D g n) : g.K 0 = none := by
  cases e : g.K 0 with
  | none => rfl
  | some d => have := (h.key 0 d e).2.1; omega
theorem QF.keep (h : QF w f D g n) (hk : ∀ i, (g.kap i).isSome = true → w'.heap[i]? = w.heap[i]?) (hs : w.heap.size ≤ w'.heap.size) : QF w' f D g n := by
  have ht : ∀ {i t}, g.kap i = some t → w'.heap[i]? = w.heap[i]? := fun {i t} e => hk i (by rw [e]; rfl)
  obtain ⟨O, p, hO⟩ := h.tree
  refine ⟨(ht h.tf).trans h.head, ⟨O, p.keep (fun i hi => ht (hO i hi)) hs, hO⟩, h.map.keep (ht h.tm), fun d e he => ?_, h.key, h.has, h.inj, fun p x hp => ?_, h.tf, h.tm, fun i hi => Nat.lt_of_lt_of_le (h.lt i hi) hs⟩
  · obtain ⟨c, h1, h2, h3⟩ := h.ent d e he
    exact ⟨c, h1, (ht h3).trans h2, h3⟩
  · obtain ⟨h1, h2⟩ := h.pipe p x hp
    exact ⟨h1.keep (ht h2), h2⟩
theorem QF.below (h : QF w f D g n) (hb : Below w.heap.size w w') : QF w' f D g n := h.keep (fun i hi => hb.block i (h.lt i hi)) hb.size
theorem QTb.keep (h : QTb w b g M N) (hk : w'.heap[b]? = w.heap[b]?) : QTb w' b g M N := ⟨h.tab.keep hk, h.off, h.len, h.rel⟩
theorem QTb.below (h : QTb w b g M N) (hb : Below w.heap.size w w') : QTb w' b g M N := h.keep (hb.block b h.tab.lt)
/-- Another table stays. -/
theorem QTb.other (h : QTb w b g M N) (hx : Ext w D' g g') (hk : w'.heap[b]? = w.heap[b]?) (hE : ∀ i (hi : i < N.length), 0 < N[i].1 → (D'.E N[i].1).isSome = true) : QTb w' b g' M N := by
  refine ⟨h.tab.keep hk, (hx.kap b h.tab.lt).trans h.off, h.len, fun i h1 h2 => ?_⟩
  obtain ⟨a, c⟩ := h.rel i h1 h2
  refine ⟨a, ?_⟩
  rcases c with c | ⟨c1, c2⟩
  · exact .inl c
  · exact .inr ⟨c1, hx.key _ _ c2 (hE i h2 c1)⟩
theorem QF.cells (h : QF w f D g n) : w.cell? ⟨f, 0, none⟩ = some (wp g.r) ∧ w.cell? ⟨f, 1, none⟩ = some (.map (some g.gO)) :=
  ⟨by rw [cell_of_row _ _ _ _ _ _ h.head]; rfl, by rw [cell_of_row _ _ _ _ _ _ h.head]; rfl⟩
theorem QF.ecell (h : QF w f D g n) (he : D.E d = some e) {c : Int} (hc : D.R d = some c) : w.cell? ⟨g.B d, 0, none⟩ = some (.int .i64 e.kind) ∧ w.cell? ⟨g.B d, 1, none⟩ = some (.int .i64 e.prot) ∧ w.cell? ⟨g.B d, 2, none⟩ = some (.int .i64 c) ∧ w.cell? ⟨g.B d, 3, none⟩ = some (.int .i64 e.node) ∧ w.cell? ⟨g.B d, 4, none⟩ = some (.int .i64 e.pos) ∧ w.cell? ⟨g.B d, 5, none⟩ = some (pv g e) ∧ ∀ o, w.frozen? ⟨g.B d, o, none⟩ = false := by
  obtain ⟨c', h1, h2, _⟩ := h.ent d e he
  rw [hc] at h1
  obtain rfl := Option.some.inj h1
  refine ⟨?_, ?_, ?_, ?_, ?_, ?_, fun o => by simp [World.frozen?, h2]⟩ <;> (rw [cell_of_row _ _ _ _ _ _ h2]; rfl)
theorem zero_ent (w : World) : (zeroValue 149).run Tryz.prog w = .ok (.pointer none) w := by kernel_rfl
/-- What the map holds at a key. -/
def gv (g : QG) (k : Int) : Value := match g.K k with
  | some d => wp (g.B d)
  | none => .pointer none
theorem gv_some (h : g.K k = some d) : gv g k = wp (g.B d) := by unfold gv; rw [h]
theorem gv_none (h : g.K k = none) : gv g k = .pointer none := by unfold gv; rw [h]
theorem QF.look (h : QF w f D g n) {k : Int} (h0 : 0 ≤ k) (h1 : k < 100000) : (Instr.lookup 142 (.map (some g.gO)) (.int .i64 k) false).run Tryz.prog w = .ok (gv g k) w := by
  rw [h.map.look Tryz.underlying142 (zero_ent _) k (wf_few h0 (by omega))]
  unfold gv
  cases g.K k <;> rfl
/-- An ENTRY's cells turned. -/
theorem QF.cell (h : QF w f D g n) (he : D.E d = some e) (e' : En) (c' : Int) (hw : w'.heap[g.B d]? = some (.cells (ecells g e' c') 180)) (hg : w.grownBy w' (some (g.B d))) :
    QF w' f { D with E := fun i => if i = d then some e' else D.E i, R := fun i => if i = d then some c' else D.R i } g n := by
  obtain ⟨c, h1, h2, h3⟩ := h.ent d e he
  have hk : ∀ {i t}, g.kap i = some t → t ≠ .ent d → w'.heap[i]? = w.heap[i]? := fun {i t} ei ht => hg.block i (h.lt i (by rw [ei]; rfl)) (fun x => tag_ne ei h3 ht (Option.some.inj x))
  obtain ⟨O, p, hO⟩ := h.tree
  have hs : ∀ x, (if x = d then some e' else D.E x).isSome = (D.E x).isSome := fun x => by
    by_cases ex : x = d
    · rw [if_pos ex, ex, he]; rfl
    · rw [if_neg ex]
  refine ⟨(hk h.tf (by simp)).trans h.head, ⟨O, p.keep (fun i hi => hk (hO i hi) (by simp)) hg.size, hO⟩, h.map.keep (hk h.tm (by simp)), fun x ex hx => ?_, fun k x hx => ?_, fun x hx => h.has x (by rw [← hs x]; exact hx), h.inj, fun p x hp => ?_, h.tf, h.tm, fun i hi => Nat.lt_of_lt_of_le (h.lt i hi) hg.size⟩
  · have hx' : (if x = d then some e' else D.E x) = some ex := hx
    by_cases e1 : x = d
    · subst e1
      rw [if_pos rfl] at hx'
      obtain rfl := Option.some.inj hx'
      exact ⟨c', if_pos rfl, hw, h3⟩
    · rw [if_neg e1] at hx'
      obtain ⟨c1, a1, a2, a3⟩ := h.ent x ex hx'
      exact ⟨c1, (if_neg e1).trans a1, (hk a3 (fun q => e1 (by injection q))).trans a2, a3⟩
  · obtain ⟨a, c⟩ := h.key k x hx
    exact ⟨by show (if x = d then some e' else D.E x).isSome = true; rw [hs]; exact a, c⟩
  · obtain ⟨a1, a2⟩ := h.pipe p x hp
    exact ⟨a1.keep (hk a2 (by simp)), a2⟩
theorem QF.putR (h : QF w f D g n) (he : D.E d = some e) (c' : Int) (hw : w'.heap[g.B d]? = some (.cells (ecells g e c') 180)) (hg : w.grownBy w' (some (g.B d))) :
    QF w' f { D with R := fun i => if i = d then some c' else D.R i } g n := by
  have := h.cell he e c' hw hg
  have hE : (fun i => if i = d then some e else D.E i) = D.E := by
    funext i
    by_cases ei : i = d
    · rw [if_pos ei, ei, he]
    · rw [if_neg ei]
  rw [hE] at this
  exact this
theorem QF.putE (h : QF w f D g n) (he : D.E d = some e) {c : Int} (hc : D.R d = some c) (e' : En) (hw : w'.heap[g.B d]? = some (.cells (ecells g e' c) 180)) (hg : w.grownBy w' (some (g.B d))) :
    QF w' f { D with E := fun i => if i = d then some e' else D.E i } g n := by
  have := h.cell he e' c hw hg
  have hE : (fun i => if i = d then some c else D.R i) = D.R := by
    funext i
    by_cases ei : i = d
    · rw [if_pos ei, ei, hc]
    · rw [if_neg ei]
  rw [hE] at this
  exact this
/-- A table's number turned. -/
theorem QT.put (h : QT w b M) {i : Nat} (hi : i < 8) (x : Int × Bool) (hx : 0 ≤ x.1 ∧ x.1 < 100000 ∧ (x.1 = 0 → x.2 = false)) : QT ((w.setCell ⟨b, i * 2, none⟩ (.int .i64 x.1)).setCell ⟨b, i * 2 + 1, none⟩ (.bool x.2)) b (M.set i x) := by
  refine ⟨?_, by rw [List.length_set]; exact h.len, fun y hy => ?_⟩
  · have h1 := heap_cell_same w b (i * 2) (.int .i64 x.1) _ _ _ h.blk
    have h2 := heap_cell_same _ b (i * 2 + 1) (.bool x.2) _ _ _ h1
    rw [h2, ← nv_put M i x (by rw [h.len]; exact hi), Nat.mul_comm]
    simp
  · rcases List.mem_or_eq_of_mem_set hy with h1 | h1
    · exact h.pos y h1
    · rw [h1]; exact hx
theorem QT.mark (h : QT w b M) {i : Nat} (hi : i < 8) (c : Bool) (hc : (M[i]'(by rw [h.len]; exact hi)).1 ≠ 0) : QT (w.setCell ⟨b, i * 2 + 1, none⟩ (.bool c)) b (M.set i ((M[i]'(by rw [h.len]; exact hi)).1, c)) := by
  have hiL : i < M.length := by rw [h.len]; exact hi
  refine ⟨?_, by rw [List.length_set]; exact h.len, fun y hy => ?_⟩
  · have h2 := heap_cell_same w b (i * 2 + 1) (.bool c) _ _ _ h.blk
    rw [h2, ← nv_put M i (M[i].1, c) hiL, Nat.mul_comm]
    have e : (nv M).set (2 * i) (.int .i64 M[i].1) = nv M := by
      obtain ⟨e1, _⟩ := nv_at M i hiL
      obtain ⟨hl, he⟩ := List.getElem?_eq_some_iff.1 e1
      rw [← he, List.set_getElem_self]
    simp [e]
  · rcases List.mem_or_eq_of_mem_set hy with h1 | h1
    · exact h.pos y h1
    · rw [h1]; exact ⟨(h.nn hiL).1, (h.nn hiL).2.1, fun e => absurd e hc⟩
/-- The relation behind one number's turn. -/
theorem QTb.set (h : QTb w b g M N) {i : Nat} (x y : Int × Bool) (hT : QT w' b (M.set i x)) (hxy : y.2 = x.2 ∧ ((x.1 = 0 ∧ y.1 = 0) ∨ (0 < y.1 ∧ g.K x.1 = some y.1))) : QTb w' b g (M.set i x) (N.set i y) := by
  refine ⟨hT, h.off, by rw [List.length_set]; exact h.len, fun j h1 h2 => ?_⟩
  rw [List.length_set] at h1 h2
  by_cases e : i = j
  · subst e
    simp only [List.getElem_set_self]
    exact hxy
  · rw [List.getElem_set_ne e, List.getElem_set_ne e]
    exact h.rel j h1 h2
end
end Go.Proofs.YtjkneekfijibiabGreatDoor

namespace Go.Proofs.YtjkneekfijibiabGreatDoor
open Go.RowKit
/-- Slices of the pipe's own array. -/
theorem arr_l (b K : Nat) (hK : K < 16) (w : World) : (Instr.sliceAt 215 (.pointer (some ⟨b, 4, none⟩)) (some (.int .i64 (K : Int))) none none).run Tryz.prog w = .ok (.slice (some ⟨b, 4 + K, none⟩) (16 - K) (16 - K)) w := by
  have hl : Tryz.prog.arrayLen 215 = 16 := by kernel_rfl
  have he : Tryz.prog.elem 215 = 5 := by kernel_rfl
  have h := run_sliceAt_array_l (P := Tryz.prog) w 215 ⟨b, 4, none⟩ (by kernel_rfl) .i64 (K : Int) (by omega) (by rw [hl]; omega)
  rw [h, hl, he, Tryz.sizeOf5]
  simp only [Result.andThen, slicedAt, Int.toNat_natCast]
  rw [if_neg (by omega), Addr.add_lit, Nat.mul_one]
theorem arr_h (b n : Nat) (hn : n ≤ 16) (w : World) : (Instr.sliceAt 215 (.pointer (some ⟨b, 4, none⟩)) none (some (.int .i64 (n : Int))) none).run Tryz.prog w = .ok (.slice (some ⟨b, 4, none⟩) n 16) w := by
  have hl : Tryz.prog.arrayLen 215 = 16 := by kernel_rfl
  have he : Tryz.prog.elem 215 = 5 := by kernel_rfl
  have h := run_sliceAt_array_h (P := Tryz.prog) w 215 ⟨b, 4, none⟩ (by kernel_rfl) .i64 (n : Int) (by omega) (by rw [hl]; omega)
  rw [h, hl, he, Tryz.sizeOf5]
  simp only [Result.andThen, slicedAt, Int.toNat_natCast]
  rw [if_neg (by omega), Addr.add_lit]
  rfl
theorem arr_lh (b n K : Nat) (hn : n < 16) (hnK : n ≤ K) (hK : K ≤ 16) (w : World) : (Instr.sliceAt 215 (.pointer (some ⟨b, 4, none⟩)) (some (.int .i64 (n : Int))) (some (.int .i64 (K : Int))) none).run Tryz.prog w = .ok (.slice (some ⟨b, 4 + n, none⟩) (K - n) (16 - n)) w := by
  have hl : Tryz.prog.arrayLen 215 = 16 := by kernel_rfl
  have he : Tryz.prog.elem 215 = 5 := by kernel_rfl
  have h := run_sliceAt_array_lh (P := Tryz.prog) w 215 ⟨b, 4, none⟩ (by kernel_rfl) .i64 .i64 (n : Int) (K : Int) (by omega) (by omega) (by rw [hl]; omega)
  rw [h, hl, he, Tryz.sizeOf5]
  simp only [Result.andThen, slicedAt, Int.toNat_natCast]
  rw [if_neg (by omega), Addr.add_lit, Nat.mul_one]
theorem arr_end (b : Nat) (w : World) : (Instr.sliceAt 215 (.pointer (some ⟨b, 4, none⟩)) (some (.int .i64 16)) (some (.int .i64 16)) none).run Tryz.prog w = .ok (.slice (some ⟨b, 4, none⟩) 0 0) w := by
  have hl : Tryz.prog.arrayLen 215 = 16 := by kernel_rfl
  have he : Tryz.prog.elem 215 = 5 := by kernel_rfl
  have h := run_sliceAt_array_lh (P := Tryz.prog) w 215 ⟨b, 4, none⟩ (by kernel_rfl) .i64 .i64 16 16 (by omega) (by omega) (by rw [hl]; omega)
  rw [h, hl, he, Tryz.sizeOf5]
  rfl
theorem arr_all (b : Nat) (w : World) : (Instr.sliceAt 215 (.pointer (some ⟨b, 4, none⟩)) none none none).run Tryz.prog w = .ok (.slice (some ⟨b, 4, none⟩) 16 16) w := by
  have hl : Tryz.prog.arrayLen 215 = 16 := by kernel_rfl
  have he : Tryz.prog.elem 215 = 5 := by kernel_rfl
  have h := run_sliceAt_array_all (P := Tryz.prog) w 215 ⟨b, 4, none⟩ (by kernel_rfl)
  rw [h, hl, he, Tryz.sizeOf5]
  rfl

section
variable {w : World} {b : Nat} {F I : Int} {B : List UInt8}

set_option maxHeartbeats 400000 in
theorem thas (w : World) (b : Nat) (e : Int) :
    Calls Tryz.prog 175 #[tp b, .int .i64 e] w fun x w' => x = .returned (.bool (decide (e = 2 ∨ e = 3))) ∧ w' = w := by
  by_cases h2 : e = 2
  · subst h2
    go_enter Tryz.func175, Tryz.ntmps175
    go_wp2
    go_ret
    exact ⟨rfl, rfl⟩
  · by_cases h3 : e = 3
    · subst h3
      go_enter Tryz.func175, Tryz.ntmps175
      go_wp2
      go_ret
      exact ⟨rfl, rfl⟩
    · rw [decide_eq_false (show ¬ (e = 2 ∨ e = 3) by omega)]
      go_enter Tryz.func175, Tryz.ntmps175
      go_wp2
      go_ret
      exact ⟨by simp [h2, h3], rfl⟩

theorem thas_not (w : World) (b : Nat) (e : Int) (h : ¬ (e = 2 ∨ e = 3)) : Calls Tryz.prog 175 #[tp b, .int .i64 e] w fun x w' => x = .returned (.bool false) ∧ w' = w := by
  have := thas w b e; rw [decide_eq_false h] at this; exact this
theorem thas_yes (w : World) (b : Nat) (e : Int) (h : e = 2 ∨ e = 3) : Calls Tryz.prog 175 #[tp b, .int .i64 e] w fun x w' => x = .returned (.bool true) ∧ w' = w := by
  have := thas w b e; rw [decide_eq_true h] at this; exact this

set_option maxHeartbeats 400000 in
theorem Tb.ends (h : Tb w b F I B) : Calls Tryz.prog 140 #[tp b] w fun x w' => x = .returned (.tuple #[.int .i64 F, .int .i64 I]) ∧ ∃ q, w' = w.drewN q := by
  have c1 := h.frm
  have c2 := h.int
  go_enter Tryz.func140, Tryz.ntmps140
  go_wp2
  go_quiet (fail)
  go_wp2
  go_ret2
  exact ⟨rfl, _, rfl⟩

set_option maxHeartbeats 400000 in
theorem Tb.len (h : Tb w b F I B) : Calls Tryz.prog 141 #[tp b] w fun x w' => x = .returned (.int .i64 (B.length : Int)) ∧ w' = w := by
  have c1 := h.held
  go_enter Tryz.func141, Tryz.ntmps141
  go_wp2
  go_ret
  exact ⟨rfl, rfl⟩

set_option maxHeartbeats 1000000 in
theorem Tb.open_ok (h : Tb w b F I B) (e : Int) (hF : 0 ≤ F) (hF' : F < 1000) (hI : 0 ≤ I) (hI' : I < 1000) :
    Calls Tryz.prog 158 #[tp b, .int .i64 e] w fun x w' => x = .returned (erT (opE e)) ∧ Tb w' b (opF F e) (opI I e) B ∧ w.grownBy w' (some b) := by
  have c1 := h.frm
  have c2 := h.int
  have l2 := h.live 2 (by omega)
  have l3 := h.live 3 (by omega)
  by_cases h2 : e = 2
  · subst h2
    go_enter Tryz.func158, Tryz.ntmps158
    go_wp2_with (go_at_call 175; refine (thas_yes _ b 2 (by omega)).mono ?_; rintro x w' ⟨rfl, rfl⟩)
    go_region
    go_wp2
    go_ret
    exact ⟨rfl, (h.putF (F + 1)).keep rfl, tgrown_drew (tgrown_set _ _ _ _)⟩
  · by_cases h3 : e = 3
    · subst h3
      go_enter Tryz.func158, Tryz.ntmps158
      go_wp2_with (go_at_call 175; refine (thas_yes _ b 3 (by omega)).mono ?_; rintro x w' ⟨rfl, rfl⟩)
      go_region
      go_wp2
      go_ret
      exact ⟨rfl, (h.putI (I + 1)).keep rfl, tgrown_drew (tgrown_set _ _ _ _)⟩
    · have e1 : opE e = 1 := by unfold opE; rw [if_neg (by omega)]
      have e2 : opF F e = F := by unfold opF; rw [if_neg h2]
      have e3 : opI I e = I := by unfold opI; rw [if_neg h3]
      rw [e1, e2, e3]
      go_enter Tryz.func158, Tryz.ntmps158
      go_wp2_with (go_at_call 175; refine (thas_not _ b e (by omega)).mono ?_; rintro x w' ⟨rfl, rfl⟩)
      go_ret
      exact ⟨rfl, h, World.grownBy.refl _ _⟩
end
end Go.Proofs.YtjkneekfijibiabGreatDoor

/- PipePlays: the walk of its Go text. -/
import Derived.Test.YtcllfedpdcjbcabDoorTubes3
import Derived.Test.YtcllfedpdcjbcabDoorTubesS
import Derived.Test.YtcllfedpdcjbcabDoorBare
import Derived.Deep.LoopGhost
import Derived.Deep.DeepCutAuto
import Derived.Deep.Light
import Derived.Deep.RegionHeld3
import Derived.WalkSmall
import Derived.Deep.CutBlock
namespace Go.Proofs.YtcllfedpdcjbcabDoor
open Go.RowKit

theorem bare_erT (c : Int) (w : World) (hg : w.cell? ⟨0, 0, none⟩ = some errT) : Calls Tryd.prog 17 #[erT c, .int .i64 c] w fun e w' => e = .returned (.bool true) ∧ Below w.heap.size w w' := by
  by_cases h : c = 0
  · subst h; exact bare_nil w
  · rw [erT, if_neg h]; exact bare_eno c w hg

/-- Both pipes, apart from each other and from all that was there at first; an item of the script at block x. -/
structure TT (w0 : World) (x : Nat) (xs : Array Value) (w : World) (F I : Int) (B : List UInt8) (F' I' : Int) (B' : List UInt8) : Prop where
  a : Tb w w0.heap.size F I B
  d : Rt w (w0.heap.size + 1) F' I' B'
  bel : Below w0.heap.size w0 w
  item : w.heap[x]? = some (.cells xs 52)
  far : w0.heap.size + 1 < x

theorem tbelow_of_grown {w0 w w' : World} {s : Nat} (h : Below w0.heap.size w0 w) (g : w.grownBy w' (some s)) (hs : w0.heap.size ≤ s) : Below w0.heap.size w0 w' :=
  ⟨g.os.trans h.os, g.tape.trans h.tape, g.output.trans h.output, Nat.le_trans h.size g.size, fun i hi => (g.block i (by have := h.size; omega) (fun e => by injection e with e; omega)).trans (h.block i hi)⟩

section
variable {w0 w w' : World} {x : Nat} {xs : Array Value} {F I F' I' F1 I1 : Int} {B B' B1 : List UInt8}

theorem TT.lt (s : TT w0 x xs w F I B F' I' B') : x < w.heap.size := by
  by_cases e : x < w.heap.size
  · exact e
  · have h := s.item
    rw [Array.getElem?_eq_none (by omega)] at h; cases h
theorem TT.cell (s : TT w0 x xs w F I B F' I' B') (j : Nat) : w.cell? ⟨x, j, none⟩ = xs[j]? := by simp [World.cell?, s.item]
theorem TT.grow (s : TT w0 x xs w F I B F' I' B') {r : Option Nat} (g : w.grownBy w' r) (hr : ∀ j, r = some j → x < j) : TT w0 x xs w' F I B F' I' B' := by
  have hl := s.lt
  have hf := s.far
  have keep : ∀ i, i ≤ x → w'.heap[i]? = w.heap[i]? := fun i hi => g.block i (by omega) (fun e => by have := hr i e.symm; omega)
  exact ⟨s.a.keep (keep _ (by omega)), s.d.keep (keep _ (by omega)), ⟨g.os.trans s.bel.os, g.tape.trans s.bel.tape, g.output.trans s.bel.output, Nat.le_trans s.bel.size g.size, fun i hi => (keep i (by omega)).trans (s.bel.block i hi)⟩, (keep x (Nat.le_refl _)).trans s.item, s.far⟩
theorem TT.stay (s : TT w0 x xs w F I B F' I' B') (h : Below w.heap.size w w') : TT w0 x xs w' F I B F' I' B' :=
  s.grow (r := none) ⟨h.os, h.tape, h.output, h.size, fun i hi _ => h.block i hi⟩ (fun _ e => by cases e)
theorem TT.turnA (s : TT w0 x xs w F I B F' I' B') (l : Tb w' w0.heap.size F1 I1 B1) (g : w.grownBy w' (some w0.heap.size)) : TT w0 x xs w' F1 I1 B1 F' I' B' := by
  have hf := s.far
  exact ⟨l, s.d.keep (g.block _ s.d.lt (fun e => by injection e with e; omega)), tbelow_of_grown s.bel g (Nat.le_refl _), (g.block x s.lt (fun e => by injection e with e; omega)).trans s.item, s.far⟩
theorem TT.turnD (s : TT w0 x xs w F I B F' I' B') (l : Rt w' (w0.heap.size + 1) F1 I1 B1) (g : w.grownBy w' (some (w0.heap.size + 1))) : TT w0 x xs w' F I B F1 I1 B1 := by
  have hf := s.far
  exact ⟨s.a.keep (g.block _ s.a.lt (fun e => by injection e with e; omega)), l, tbelow_of_grown s.bel g (by omega), (g.block x s.lt (fun e => by injection e with e; omega)).trans s.item, s.far⟩
end

/-- One item of the script. -/
structure TItem where
  what : Int
  n : Int
  s : List UInt8

/-- The items lie in the argument's array. -/
def TScript (w : World) (ad : Option Addr) (len : Nat) (q : Nat → TItem) : Prop :=
  len = 0 ∨ ∃ blk off, ad = some ⟨blk, off, none⟩ ∧ blk < w.heap.size ∧ ∀ i, i < len →
    w.cell? ⟨blk, off + i * 3, none⟩ = some (.int .i64 (q i).what) ∧ w.cell? ⟨blk, off + i * 3 + 1, none⟩ = some (.int .i64 (q i).n) ∧ w.cell? ⟨blk, off + i * 3 + 2, none⟩ = some (txt (q i).s)

/-- What both make of ends stays small. -/
theorem op_small {F I : Int} (e : Int) (j : Nat) (h : 0 ≤ F ∧ F ≤ j ∧ 0 ≤ I ∧ I ≤ j) : 0 ≤ opF F e ∧ opF F e ≤ ((j + 1 : Nat) : Int) ∧ 0 ≤ opI I e ∧ opI I e ≤ ((j + 1 : Nat) : Int) := by
  unfold opF opI; split <;> split <;> omega
theorem cl_small {F I : Int} (e : Int) (j : Nat) (h : 0 ≤ F ∧ F ≤ j ∧ 0 ≤ I ∧ I ≤ j) : 0 ≤ clF F e ∧ clF F e ≤ ((j + 1 : Nat) : Int) ∧ 0 ≤ clI I e ∧ clI I e ≤ ((j + 1 : Nat) : Int) := by
  unfold clF clI; split <;> split <;> omega

theorem tb_new (w : World) (t : TypeId) : Tb (w.alloc (.cells #[.int .i64 0, .int .i64 0, .int .i64 0, .int .i64 0, .int .u8 0, .int .u8 0, .int .u8 0, .int .u8 0, .int .u8 0, .int .u8 0, .int .u8 0, .int .u8 0, .int .u8 0, .int .u8 0, .int .u8 0, .int .u8 0, .int .u8 0, .int .u8 0, .int .u8 0, .int .u8 0, .int .i64 0] t)) w.heap.size 0 0 [] := by
  have hh : (w.alloc (.cells #[.int .i64 0, .int .i64 0, .int .i64 0, .int .i64 0, .int .u8 0, .int .u8 0, .int .u8 0, .int .u8 0, .int .u8 0, .int .u8 0, .int .u8 0, .int .u8 0, .int .u8 0, .int .u8 0, .int .u8 0, .int .u8 0, .int .u8 0, .int .u8 0, .int .u8 0, .int .u8 0, .int .i64 0] t)).heap[w.heap.size]? = some (.cells #[.int .i64 0, .int .i64 0, .int .i64 0, .int .i64 0, .int .u8 0, .int .u8 0, .int .u8 0, .int .u8 0, .int .u8 0, .int .u8 0, .int .u8 0, .int .u8 0, .int .u8 0, .int .u8 0, .int .u8 0, .int .u8 0, .int .u8 0, .int .u8 0, .int .u8 0, .int .u8 0, .int .i64 0] t) := by
    show (w.heap.push _)[w.heap.size]? = _
    rw [Array.getElem?_push, if_pos rfl]
  refine ⟨by simp, by rw [cell_of_row _ _ _ _ _ _ hh]; rfl, by rw [cell_of_row _ _ _ _ _ _ hh]; rfl, fun k hk => ?_, by rw [cell_of_row _ _ _ _ _ _ hh]; rfl, fun k _ => by simp⟩
  rw [cell_of_row _ _ _ _ _ _ hh, bt_out _ _ (by simp)]
  have hk' : k = 0 ∨ k = 1 ∨ k = 2 ∨ k = 3 ∨ k = 4 ∨ k = 5 ∨ k = 6 ∨ k = 7 ∨ k = 8 ∨ k = 9 ∨ k = 10 ∨ k = 11 ∨ k = 12 ∨ k = 13 ∨ k = 14 ∨ k = 15 := by omega
  rcases hk' with rfl | rfl | rfl | rfl | rfl | rfl | rfl | rfl | rfl | rfl | rfl | rfl | rfl | rfl | rfl | rfl <;> rfl
theorem rt_new (w : World) (t : TypeId) : Rt (w.alloc (.cells #[txt [], .int .i64 0, .int .i64 0] t)) w.heap.size 0 0 [] := by
  have hh : (w.alloc (.cells #[txt [], .int .i64 0, .int .i64 0] t)).heap[w.heap.size]? = some (.cells #[txt [], .int .i64 0, .int .i64 0] t) := by
    show (w.heap.push _)[w.heap.size]? = _
    rw [Array.getElem?_push, if_pos rfl]
  exact ⟨by simp, by rw [cell_of_row _ _ _ _ _ _ hh]; rfl, by rw [cell_of_row _ _ _ _ _ _ hh]; rfl, by rw [cell_of_row _ _ _ _ _ _ hh]; rfl, fun k _ => by simp⟩

set_option maxRecDepth 100000 in
set_option maxHeartbeats 1000000 in
theorem tplays_long (ad : Option Addr) (len cap : Nat) (w : World) (h : 60 < len) :
    Calls Tryd.prog 4 #[.slice ad len cap] w fun e w' => e = .returned (.bool true) ∧ Below w.heap.size w w' := by
  have h1 : (60 : Int) < (len : Int) := by omega
  go_enter Tryd.func4, Tryd.ntmps4
  go_wp2_with fail
  go_ret
  exact ⟨rfl, Below.refl _ _⟩

set_option maxRecDepth 100000 in
set_option maxHeartbeats 16000000 in
theorem tplays_short (ad : Option Addr) (len cap : Nat) (q : Nat → TItem) (w : World) (h1 : len ≤ 60) (hsc : TScript w ad len q) (hg : w.cell? ⟨0, 0, none⟩ = some errT) :
    Calls Tryd.prog 4 #[.slice ad len cap] w fun e w' => e = .returned (.bool true) ∧ Below w.heap.size w w' := by
  have h1' : ¬ (60 : Int) < (len : Int) := by omega
  have hgl : 0 < w.heap.size := World.block_lt_of_cell? w _ hg
  have hgw : ∀ w', Below w.heap.size w w' → w'.cell? ⟨0, 0, none⟩ = some errT := fun w' h => by rw [h.cell (p := ⟨0, 0, none⟩) hgl]; exact hg
  have LA := (tb_new w 48).keep (w' := (w.alloc (.cells #[.int .i64 0, .int .i64 0, .int .i64 0, .int .i64 0, .int .u8 0, .int .u8 0, .int .u8 0, .int .u8 0, .int .u8 0, .int .u8 0, .int .u8 0, .int .u8 0, .int .u8 0, .int .u8 0, .int .u8 0, .int .u8 0, .int .u8 0, .int .u8 0, .int .u8 0, .int .u8 0, .int .i64 0] 48)).alloc (.cells #[txt [], .int .i64 0, .int .i64 0] 50)) (Below.heap_alloc _ _ _ (by simp))
  have LD := rt_new (w.alloc (.cells #[.int .i64 0, .int .i64 0, .int .i64 0, .int .i64 0, .int .u8 0, .int .u8 0, .int .u8 0, .int .u8 0, .int .u8 0, .int .u8 0, .int .u8 0, .int .u8 0, .int .u8 0, .int .u8 0, .int .u8 0, .int .u8 0, .int .u8 0, .int .u8 0, .int .u8 0, .int .u8 0, .int .i64 0] 48)) 50
  rw [World.size_alloc] at LD
  have B0 : Below w.heap.size w ((w.alloc (.cells #[.int .i64 0, .int .i64 0, .int .i64 0, .int .i64 0, .int .u8 0, .int .u8 0, .int .u8 0, .int .u8 0, .int .u8 0, .int .u8 0, .int .u8 0, .int .u8 0, .int .u8 0, .int .u8 0, .int .u8 0, .int .u8 0, .int .u8 0, .int .u8 0, .int .u8 0, .int .u8 0, .int .i64 0] 48)).alloc (.cells #[txt [], .int .i64 0, .int .i64 0] 50)) := ((Below.refl _ _).alloc (Nat.le_refl _) _).alloc (by simp) _
  go_enter Tryd.func4, Tryd.ntmps4
  go_wp2_with fail
  go_loopg [5] len (fun k s5 wr => ∃ (j : Nat) (F I : Int) (B : List UInt8), j + k = len ∧ s5 = .int .i64 j ∧ (0 ≤ F ∧ F ≤ j ∧ 0 ≤ I ∧ I ≤ j) ∧ Tb wr w.heap.size F I B ∧ Rt wr (w.heap.size + 1) F I B ∧ Below w.heap.size w wr)
  case atStart => exact ⟨0, 0, 0, [], by omega, rfl, by omega, LA, LD, B0⟩
  case round =>
    clear LA LD B0
    obtain ⟨j, F, I, B, hj, rfl, hFI, LA, LD, hB⟩ := hrel
    by_cases hlt : (j : Int) < (len : Int)
    · rcases hsc with h0 | ⟨blk, off, rfl, hbl, hss⟩
      · exfalso; omega
      obtain ⟨c0, c1, c2⟩ := hss j (by omega)
      have d0 : wr.cell? ⟨blk, off + j * 3, none⟩ = some (.int .i64 (q j).what) := by rw [hB.cell (p := ⟨blk, off + j * 3, none⟩) hbl]; exact c0
      have d1 : wr.cell? ⟨blk, off + j * 3 + 1, none⟩ = some (.int .i64 (q j).n) := by rw [hB.cell (p := ⟨blk, off + j * 3 + 1, none⟩) hbl]; exact c1
      have d2 : wr.cell? ⟨blk, off + j * 3 + 2, none⟩ = some (txt (q j).s) := by rw [hB.cell (p := ⟨blk, off + j * 3 + 2, none⟩) hbl]; exact c2
      clear c0 c1 c2 hss
      generalize (q j).what = W at *
      generalize (q j).n = X at *
      generalize (q j).s = S at *
      have S0 : TT w wr.heap.size #[.int .i64 W, .int .i64 X, txt S] (wr.alloc (.cells #[.int .i64 W, .int .i64 X, txt S] 52)) F I B F I B := by
        refine ⟨LA.keep (Below.heap_alloc _ _ _ LA.lt), LD.keep (Below.heap_alloc _ _ _ LD.lt), hB.alloc hB.size _, ?_, LD.lt⟩
        show (wr.heap.push _)[wr.heap.size]? = _
        rw [Array.getElem?_push, if_pos rfl]
      by_cases hlong : (100 : Int) < (S.length : Int)
      · go_wp2_with fail
        go_roundg (gk - 1)
        case measure => omega
        case rel => exact ⟨j + 1, F, I, B, by omega, by go_num, by omega, S0.a, S0.d, S0.bel⟩
      · have hlen : S.length ≤ 1000 := by omega
        go_upto_block 2 with fail
        obtain ⟨x, hx⟩ : ∃ x, wr.heap.size = x := ⟨_, rfl⟩
        obtain ⟨w2, hw2⟩ : ∃ w2, wr.alloc (.cells #[.int .i64 W, .int .i64 X, txt S] 52) = w2 := ⟨_, rfl⟩
        rw [hw2, hx] at S0
        rw [hw2, hx]
        clear hw2 hx d0 d1 d2 LA LD hB
        obtain ⟨ys, hys⟩ : ∃ ys : Array Value, #[.int .i64 W, .int .i64 X, txt S] = ys := ⟨_, rfl⟩
        have z0 := (S0.cell 0).trans (show (#[.int .i64 W, .int .i64 X, txt S] : Array Value)[0]? = some (.int .i64 W) from rfl)
        have z1 := (S0.cell 1).trans (show (#[.int .i64 W, .int .i64 X, txt S] : Array Value)[1]? = some (.int .i64 X) from rfl)
        have z2 := (S0.cell 2).trans (show (#[.int .i64 W, .int .i64 X, txt S] : Array Value)[2]? = some (txt S) from rfl)
        have k1 : ∀ (V : World) (a1 a2 : Int) (a3 : List UInt8) (b1 b2 : Int) (b3 : List UInt8), TT w x ys V a1 a2 a3 b1 b2 b3 → V.cell? ⟨x, 1, none⟩ = some (.int .i64 X) := fun V _ _ _ _ _ _ S' => by rw [S'.cell 1, ← hys]; rfl
        have k2 : ∀ (V : World) (a1 a2 : Int) (a3 : List UInt8) (b1 b2 : Int) (b3 : List UInt8), TT w x ys V a1 a2 a3 b1 b2 b3 → V.cell? ⟨x, 2, none⟩ = some (txt S) := fun V _ _ _ _ _ _ S' => by rw [S'.cell 2, ← hys]; rfl
        rw [hys] at S0
        clear hys
        go_cut [36, 46, 56, 79] (fun _ _ _ _ wc => ∃ F I B, (0 ≤ F ∧ F ≤ ((j + 1 : Nat) : Int) ∧ 0 ≤ I ∧ I ≤ ((j + 1 : Nat) : Int)) ∧ TT w x ys wc F I B F I B)
        case first =>
          by_cases hW0 : W = 0
          · subst hW0
            as_aux_lemma =>
              obtain ⟨c, hc⟩ : ∃ c, opE X = c := ⟨_, rfl⟩
              have sm := op_small X j hFI
              have hA : ∀ V : World, TT w x ys V F I B F I B → Calls Tryd.prog 18 #[tp w.heap.size, .int .i64 X] V fun e w' => e = .returned (erT c) ∧ TT w x ys w' (opF F X) (opI I X) B F I B ∧ w'.cell? ⟨x, 1, none⟩ = some (.int .i64 X) := fun V S => by
                rw [← hc]
                refine (S.a.open_ok X (by omega) (by omega) (by omega) (by omega)).mono ?_
                rintro e w' ⟨rfl, l, g⟩
                have S' := S.turnA l g
                exact ⟨rfl, S', k1 _ _ _ _ _ _ _ S'⟩
              have hD : ∀ V : World, TT w x ys V (opF F X) (opI I X) B F I B → Calls Tryd.prog 19 #[tp (w.heap.size + 1), .int .i64 X, .int .i64 1] V fun e w' => e = .returned (.int .i64 c) ∧ TT w x ys w' (opF F X) (opI I X) B (opF F X) (opI I X) B ∧ w'.cell? ⟨x, 1, none⟩ = some (.int .i64 X) := fun V S => by
                rw [← hc]
                refine (S.d.open_ok X (by omega) (by omega) (by omega) (by omega)).mono ?_
                rintro e w' ⟨rfl, l, g⟩
                have S' := S.turnD l g
                exact ⟨rfl, S', k1 _ _ _ _ _ _ _ S'⟩
              clear hc
              go_upto_region 12 with fail
              go_region_held3 (fun w' => w'.cell? ⟨x, 1, none⟩ = some (.int .i64 X)) (first | exact y1 | exact z1) (first
                | (go_at_call 18; refine (hA _ (by exact S0.stay ⟨rfl, rfl, rfl, Nat.le_refl _, fun _ _ => rfl⟩)).mono ?_; rintro e w5 ⟨rfl, S1, y1⟩)
                | (go_at_call 19; refine (hD _ S1).mono ?_; rintro e w6 ⟨rfl, S2, y1⟩)
                | (go_at_call 17; refine (bare_erT _ _ (hgw _ S2.bel)).mono ?_; rintro e w7 ⟨rfl, b7⟩; have S3 := S2.stay b7; have y1 := k1 _ _ _ _ _ _ _ S3))
              all_goals
                go_wp2_with fail
                go_meet
                case rel => exact ⟨_, _, _, sm, S3⟩
          · by_cases hW1 : W = 1
            · subst hW1
              as_aux_lemma =>
                obtain ⟨c, hc⟩ : ∃ c, clE F I X = c := ⟨_, rfl⟩
                have sm := cl_small X j hFI
                have hA : ∀ V : World, TT w x ys V F I B F I B → Calls Tryd.prog 20 #[tp w.heap.size, .int .i64 X] V fun e w' => e = .returned (erT c) ∧ TT w x ys w' (clF F X) (clI I X) B F I B ∧ w'.cell? ⟨x, 1, none⟩ = some (.int .i64 X) := fun V S => by
                  rw [← hc]
                  refine (S.a.close_ok X (by omega) (by omega) (by omega) (by omega)).mono ?_
                  rintro e w' ⟨rfl, l, g⟩
                  have S' := S.turnA l g
                  exact ⟨rfl, S', k1 _ _ _ _ _ _ _ S'⟩
                have hD : ∀ V : World, TT w x ys V (clF F X) (clI I X) B F I B → Calls Tryd.prog 19 #[tp (w.heap.size + 1), .int .i64 X, .int .i64 (-1)] V fun e w' => e = .returned (.int .i64 c) ∧ TT w x ys w' (clF F X) (clI I X) B (clF F X) (clI I X) B ∧ w'.cell? ⟨x, 1, none⟩ = some (.int .i64 X) := fun V S => by
                  rw [← hc]
                  refine (S.d.close_ok X (by omega) (by omega) (by omega) (by omega)).mono ?_
                  rintro e w' ⟨rfl, l, g⟩
                  have S' := S.turnD l g
                  exact ⟨rfl, S', k1 _ _ _ _ _ _ _ S'⟩
                clear hc
                go_upto_region 15 with fail
                go_region_held3 (fun w' => w'.cell? ⟨x, 1, none⟩ = some (.int .i64 X)) (first | exact y1 | exact z1) (first
                  | (go_at_call 20; refine (hA _ (by exact S0.stay ⟨rfl, rfl, rfl, Nat.le_refl _, fun _ _ => rfl⟩)).mono ?_; rintro e w5 ⟨rfl, S1, y1⟩)
                  | (go_at_call 19; refine (hD _ S1).mono ?_; rintro e w6 ⟨rfl, S2, y1⟩)
                  | (go_at_call 17; refine (bare_erT _ _ (hgw _ S2.bel)).mono ?_; rintro e w7 ⟨rfl, b7⟩; have S3 := S2.stay b7; have y1 := k1 _ _ _ _ _ _ _ S3))
                all_goals
                  go_wp2_with fail
                  go_meet
                  case rel => exact ⟨_, _, _, sm, S3⟩
            · by_cases hW2 : W = 2
              · subst hW2
                as_aux_lemma =>
                  obtain ⟨c, hc⟩ : ∃ c, wrE F B S = c := ⟨_, rfl⟩
                  obtain ⟨m, hm⟩ : ∃ m, wrN F B S = m := ⟨_, rfl⟩
                  have hD := S0.d.write_ok S hlen
                  have hA := fun V (S' : TT w x ys V F I B F I (wrB F B S)) => S'.a.write_ok S
                  generalize wrB F B S = B1 at *
                  rw [hc, hm] at hD
                  simp only [hc, hm] at hA
                  clear hc hm
                  go_wp2_with fail
                  refine hD.mono ?_
                  rintro e w5 ⟨rfl, l5, g5⟩
                  have S1 := S0.turnD l5 g5
                  have y2 := k2 _ _ _ _ _ _ _ S1
                  clear hD
                  go_wp2_with fail
                  refine (hA _ S1).mono ?_
                  rintro e w6 ⟨rfl, l6, g6⟩
                  have S2 := S1.turnA l6 g6
                  clear hA y2
                  go_wp2_with fail
                  refine (bare_erT _ _ (hgw _ S2.bel)).mono ?_
                  rintro e w7 ⟨rfl, b7⟩
                  have S3 := S2.stay b7
                  go_wp2_with fail
                  go_meet
                  case rel => exact ⟨_, _, _, by omega, S3⟩
              · by_cases hW3 : W = 3
                · subst hW3
                  as_aux_lemma =>
                    obtain ⟨c, hc⟩ : ∃ c, rdE I B X = c := ⟨_, rfl⟩
                    have hD := S0.d.read_ok X
                    have hA := fun V (S' : TT w x ys V F I B F I (B.drop X.toNat)) => S'.a.read_ok X (by omega)
                    generalize B.drop X.toNat = B1 at *
                    generalize B.take X.toNat = T1 at *
                    rw [hc] at hD
                    simp only [hc] at hA
                    clear hc
                    go_wp2_with fail
                    refine hD.mono ?_
                    rintro e w5 ⟨rfl, l5, g5⟩
                    have S1 := S0.turnD l5 g5
                    have y1 := k1 _ _ _ _ _ _ _ S1
                    clear hD
                    go_wp2_with fail
                    refine (hA _ S1).mono ?_
                    rintro e w6 ⟨rfl, l6, g6⟩
                    have S2 := S1.turnA l6 g6
                    clear hA y1
                    go_wp2_with fail
                    refine (bare_erT _ _ (hgw _ S2.bel)).mono ?_
                    rintro e w7 ⟨rfl, b7⟩
                    have S3 := S2.stay b7
                    go_wp2_with fail
                    go_meet
                    case rel => exact ⟨_, _, _, by omega, S3⟩
                · as_aux_lemma =>
                    have q0 : (W == 0) = false := by simp [hW0]
                    have q1 : (W == 1) = false := by simp [hW1]
                    have q2 : (W == 2) = false := by simp [hW2]
                    have q3 : (W == 3) = false := by simp [hW3]
                    go_wp2_with fail
                    go_meet
                    case rel => exact ⟨_, _, _, by omega, S0⟩
        case rest =>
          clear S0 hFI z0 z1 z2 k1 k2
          obtain ⟨F, I, B, hFI, S0⟩ := hcut
          have hE := S0.a.ends
          go_wp2_with fail
          refine hE.mono ?_
          rintro e w5 ⟨rfl, k5, hk5⟩
          have a5 : Tb w5 w.heap.size F I B := S0.a.keep (by rw [hk5]; rfl)
          have d5 : Rt w5 (w.heap.size + 1) F I B := S0.d.keep (by rw [hk5]; rfl)
          have b5 : Below w.heap.size w w5 := by rw [hk5]; exact ⟨S0.bel.os, S0.bel.tape, S0.bel.output, S0.bel.size, S0.bel.block⟩
          have hL := fun (V : World) (hV : V.heap = w5.heap) => (a5.keep (w' := V) (by rw [hV])).len
          have c0 := d5.text
          have c1 := d5.frm
          have c2 := d5.int
          have fin : ∀ k, Tb (w5.drewN k) w.heap.size F I B ∧ Rt (w5.drewN k) (w.heap.size + 1) F I B ∧ Below w.heap.size w (w5.drewN k) := fun k => ⟨a5.keep rfl, d5.keep rfl, ⟨b5.os, b5.tape, b5.output, b5.size, b5.block⟩⟩
          clear hE S0 hk5 a5 d5 b5
          go_wp2_with fail
          go_quiet (first | (go_at_call 26; exact Calls.quiet_of_same (hL _ (by rfl))))
          go_wp2_with fail
          go_roundg (gk - 1)
          case measure => omega
          case rel => exact ⟨j + 1, F, I, B, by omega, by go_num, hFI, (fin _).1, (fin _).2.1, (fin _).2.2⟩
    · go_wp2_with fail
      go_ret
      exact ⟨rfl, hB⟩
end Go.Proofs.YtcllfedpdcjbcabDoor

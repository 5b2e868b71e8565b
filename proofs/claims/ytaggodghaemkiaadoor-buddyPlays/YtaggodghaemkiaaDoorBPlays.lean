/- BuddyPlays: the walk of its Go text. -/
import Derived.Test.YtaggodghaemkiaaDoorBState
import Derived.BigQuiet
import Derived.Deep.QuietTactic
import Derived.Deep.LoopGhost
import Derived.Deep.DeepCutAuto
import Derived.Deep.Light
import Derived.Deep.RegionHeld3
import Derived.WalkSmall
namespace Go.Proofs.YtaggodghaemkiaaDoor
open Go.RowKit Go.Shelf Go.Lib Go.Sort

/-- One item of the script. -/
structure Item where
  what : Int
  a : Int
  b : Int
  v : Int

/-- The items lie in the argument's array. -/
def Script (w : World) (ad : Option Addr) (len : Nat) (q : Nat → Item) : Prop :=
  len = 0 ∨ ∃ blk off, ad = some ⟨blk, off, none⟩ ∧ blk < w.heap.size ∧ ∀ i, i < len →
    w.cell? ⟨blk, off + i * 4, none⟩ = some (.int .i64 (q i).what) ∧ w.cell? ⟨blk, off + i * 4 + 1, none⟩ = some (.int .i64 (q i).a) ∧
    w.cell? ⟨blk, off + i * 4 + 2, none⟩ = some (.int .i64 (q i).b) ∧ w.cell? ⟨blk, off + i * 4 + 3, none⟩ = some (.int .i64 (q i).v) ∧ (Lit.int .i64 (q i).a).wf = true

theorem Both.more {w0 w : World} {b n r f g : Nat} {A : Nat → Prop} {U U' : Nat → Bool} {T T' : Int → Option Nat} {m m' m2 m3 : Nat} (B : Both w0 w b n r f g A U T m U' T' m') (h1 : m ≤ m2) (h2 : m' ≤ m3) : Both w0 w b n r f g A U T m2 U' T' m3 :=
  ⟨B.pool.more h1, B.ref.more h2, B.below, B.apart, B.offA, B.offR⟩

theorem both_new {w w1 w2 : World} {b n r f g : Nat} {A : Nat → Prop} {U : Nat → Bool} {T : Int → Option Nat} (a : At w1 b n U T 0 A) (f1 : Fr (fun _ => False) w w1) (off : ∀ i, i < w.heap.size → ¬ A i) (R : RAt w2 r f g n U T 0) (f2 : Fr (fun _ => False) w1 w2) (lr : w1.heap.size ≤ r) (lf : w1.heap.size ≤ f) (lg : w1.heap.size ≤ g) :
    Both w w2 b n r f g A U T 0 U T 0 := by
  have hr : ∀ i, rown r f g i → w1.heap.size ≤ i := by rintro i (rfl | rfl | rfl) <;> assumption
  refine ⟨a.keep (fun i hi => f2.block i (a.lt hi) (fun h => h)), R, ⟨f2.os.trans f1.os, f2.tape.trans f1.tape, f2.output.trans f1.output, Nat.le_trans f1.size f2.size, fun i hi => (f2.block i (Nat.lt_of_lt_of_le hi f1.size) (fun h => h)).trans (f1.block i hi (fun h => h))⟩, fun i hi h => ?_, off, fun i hi h => ?_⟩
  · have := hr i hi; have := a.lt h; omega
  · have := hr i h; have := f1.size; omega

set_option maxRecDepth 100000 in
set_option maxHeartbeats 1000000 in
theorem bplays_bad (n : Int) (ad : Option Addr) (len cap : Nat) (w : World) (hn : ¬ (1 ≤ n ∧ n ≤ 256)) (hg : w.cell? ⟨0, 0, none⟩ = some errT) :
    Calls Tryd.prog 4 #[.int .i64 n, .slice ad len cap] w fun e w' => e = .returned (.bool true) ∧ Below w.heap.size w w' := by
  by_cases h1 : n < 1
  all_goals
    go_enter Tryd.func4, Tryd.ntmps4
    go_wp2_with fail
    refine (pool_no _ n hn).mono ?_
    rintro e w' ⟨rfl, rfl⟩
    go_wp2_with fail
    refine (bare_eno 2 _ hg).mono ?_
    rintro e w' ⟨rfl, l1⟩
    go_wp2_with fail
    go_ret
    exact ⟨rfl, l1⟩

set_option maxRecDepth 100000 in
set_option maxHeartbeats 1000000 in
theorem bplays_long (n : Nat) (ad : Option Addr) (len cap : Nat) (w : World) (h1 : 1 ≤ n) (h2 : n ≤ 256) (hl : 60 < len) :
    Calls Tryd.prog 4 #[.int .i64 n, .slice ad len cap] w fun e w' => e = .returned (.bool true) ∧ Below w.heap.size w w' := by
  have h1' : ¬ (n : Int) < 1 := by omega
  have h2' : ¬ (256 : Int) < n := by omega
  have h3 : (60 : Int) < (len : Int) := by omega
  go_enter Tryd.func4, Tryd.ntmps4
  go_wp2_with fail
  refine (pool_ok _ n h1 h2).mono ?_
  rintro e w1 ⟨b, rfl, A, a1, f1, o1⟩
  go_wp2_with fail
  go_ret
  exact ⟨rfl, ⟨f1.os, f1.tape, f1.output, f1.size, fun i hi => f1.block i hi (fun h => h)⟩⟩

/-- The document's Alloc, where there is none and where there is one. -/
theorem ralloc_none {w : World} {r f g n : Nat} {U : Nat → Bool} {T : Int → Option Nat} {m : Nat} (h : RAt w r f g n U T m) (hm : m < 10000) (o : Nat) (ho : o ≤ 6) (hno : ∀ j r, mxb U j r → j < o) :
    Calls Tryd.prog 19 #[pp r, .int .i64 o] w fun e w' => e = .returned (.tuple #[.int .i64 0, .int .i64 12]) ∧ Below w.heap.size w w' := by
  refine (ralloc_ok h hm o ho).mono ?_
  rintro e w' (⟨_, rfl, hb⟩ | ⟨k, q, hB, _⟩)
  · exact ⟨rfl, hb⟩
  · obtain ⟨⟨q', _, hx⟩, hok, _⟩ := hB
    have := hno _ _ hx; omega
theorem ralloc_some {w : World} {r f g n : Nat} {U : Nat → Bool} {T : Int → Option Nat} {m : Nat} (h : RAt w r f g n U T m) (hm : m < 10000) (o : Nat) (ho : o ≤ 6) (hno : ¬ ∀ j r, mxb U j r → j < o) :
    Calls Tryd.prog 19 #[pp r, .int .i64 o] w fun e w' => ∃ z : Int, e = .returned (.tuple #[.int .i64 z, .int .i64 0]) ∧ ∃ k q, z = ((q * 2 ^ k : Nat) : Int) ∧ Best U o (q * 2 ^ k) k ∧ RAt w' r f g n (cut U o (q * 2 ^ (k - o))) (fun i => if i = z then some o else T i) (m + 1) ∧ Fr (rown r f g) w w' := by
  refine (ralloc_ok h hm o ho).mono ?_
  rintro e w' (⟨hn, _⟩ | ⟨k, q, hB, rfl, R, F⟩)
  · exact absurd hn hno
  · exact ⟨_, rfl, k, q, rfl, hB, R, F⟩

set_option maxRecDepth 100000 in
set_option maxHeartbeats 16000000 in
theorem bplays_short (n : Nat) (ad : Option Addr) (len cap : Nat) (q : Nat → Item) (w : World) (h1 : 1 ≤ n) (h2 : n ≤ 256) (hl : len ≤ 60) (hsc : Script w ad len q) (hg : w.cell? ⟨0, 0, none⟩ = some errT) :
    Calls Tryd.prog 4 #[.int .i64 n, .slice ad len cap] w fun e w' => e = .returned (.bool true) ∧ Below w.heap.size w w' := by
  have h1' : ¬ (n : Int) < 1 := by omega
  have h2' : ¬ (256 : Int) < n := by omega
  have h3 : ¬ (60 : Int) < (len : Int) := by omega
  have hgl : 0 < w.heap.size := World.block_lt_of_cell? w _ hg
  go_enter Tryd.func4, Tryd.ntmps4
  go_wp2_with (first
    | (go_at_call 14; refine (pool_ok _ n h1 h2).mono ?_; rintro e w1 ⟨b, rfl, A1, a1, f1, o1⟩)
    | (go_at_call 15; refine (rnew_ok _ n h1 h2).mono ?_; rintro e w2 ⟨r, rfl, f, g, R2, f2, lr, lf, lg⟩; have B2 := both_new a1 f1 o1 R2 f2 lr lf lg)
    | (go_at_call 17; refine (frees_ok B2).mono ?_; rintro e w3 ⟨v3, rfl, B3, b3, C3⟩)
    | (go_at_call 18; refine C3.mono ?_; rintro e w4 ⟨v4, rfl, B4, b4, C4⟩)
    | (go_at_call 16; refine C4.mono ?_; rintro e w5 ⟨rfl, B5, b5⟩))
  clear B2 B3 B4 C3 C4 a1 f1 o1 R2 f2 lr lf lg b3 b4 b5
  go_loopg [8] len (fun k i wr => ∃ (j : Nat) (U : Nat → Bool) (T : Int → Option Nat) (A : Nat → Prop), j + k = len ∧ i = .int .i64 j ∧ Both w wr b n r f g A U T j U T j)
  case atStart => exact ⟨0, _, _, _, by omega, rfl, B5⟩
  case round =>
    clear B5
    obtain ⟨j, U, T, A, hj, rfl, B⟩ := hrel
    by_cases hlt : (j : Int) < (len : Int)
    · rcases hsc with h0 | ⟨blk, off, rfl, hbl, hq⟩
      · exfalso; omega
      obtain ⟨c0, c1, c2, c3, hwf⟩ := hq j (by omega)
      have l2 := B.below
      have d0 : wr.cell? ⟨blk, off + j * 4, none⟩ = some (.int .i64 (q j).what) := by rw [l2.cell (p := ⟨blk, off + j * 4, none⟩) hbl]; exact c0
      have d1 : wr.cell? ⟨blk, off + j * 4 + 1, none⟩ = some (.int .i64 (q j).a) := by rw [l2.cell (p := ⟨blk, off + j * 4 + 1, none⟩) hbl]; exact c1
      have d2 : wr.cell? ⟨blk, off + j * 4 + 2, none⟩ = some (.int .i64 (q j).b) := by rw [l2.cell (p := ⟨blk, off + j * 4 + 2, none⟩) hbl]; exact c2
      have d3 : wr.cell? ⟨blk, off + j * 4 + 3, none⟩ = some (.int .i64 (q j).v) := by rw [l2.cell (p := ⟨blk, off + j * 4 + 3, none⟩) hbl]; exact c3
      clear c0 c1 c2 c3 hq
      generalize (q j).what = W at *
      generalize (q j).a = X at *
      generalize (q j).b = Y at *
      generalize (q j).v = Z at *
      have S0 : St w b n r f g wr.heap.size #[.int .i64 W, .int .i64 X, .int .i64 Y, .int .i64 Z] (wr.alloc (.cells #[.int .i64 W, .int .i64 X, .int .i64 Y, .int .i64 Z] 33)) U T j U T j := by
        refine ⟨A, B.stay ((Below.refl _ wr).alloc (Nat.le_refl _) _), ?_, fun h => by have := B.pool.lt h; omega, fun h => by have := B.ref.lt h; omega⟩
        show (wr.heap.push _)[wr.heap.size]? = _
        rw [Array.getElem?_push, if_pos rfl]
      have hgw : ∀ w', Below w.heap.size w w' → w'.cell? ⟨0, 0, none⟩ = some errT := fun w' h => by rw [h.cell (p := ⟨0, 0, none⟩) hgl]; exact hg
      clear l2
      by_cases hW : 0 ≤ W
      · by_cases ho : 0 ≤ X ∧ X ≤ 6
        · obtain ⟨o, rfl⟩ : ∃ o : Nat, X = o := ⟨X.toNat, by omega⟩
          have ho6 : o ≤ 6 := by omega
          by_cases hno : ∀ j r, mxb U j r → j < o
          · as_aux_lemma =>
              go_wp2_with (first | (go_at_call 19; refine (ralloc_none S0.ref (by omega) o ho6 hno).mono ?_; rintro e w1 ⟨rfl, b1⟩; have S1 := S0.stay b1; have y1 := S1.cell 1; simp only [List.getElem?_toArray, List.getElem?_cons_succ, List.getElem?_cons_zero] at y1) | (go_at_call 20; obtain ⟨A1, B1, k1, k2, k3⟩ := S1; refine (alloc_none B1.pool o ho6 hno).mono ?_; rintro e w2 ⟨rfl, h2⟩; subst w2) | (go_at_call 8; refine (bare_eno 12 _ (hgw _ B1.below)).mono ?_; rintro e w3 ⟨rfl, b3⟩; have S5 : St w b n r f g wr.heap.size _ w3 U T j U T j := (show St w b n r f g wr.heap.size _ _ U T j U T j from ⟨A1, B1, k1, k2, k3⟩).stay b3) | (go_at_call 23; obtain ⟨A6, B6, hx6, hA6, hr6⟩ := S5; refine (left_ok B6.pool).mono ?_; rintro e w6 ⟨rfl, h6⟩; subst w6) | (go_at_call 24; refine (rleft_ok B6.ref).mono ?_; rintro e w7 ⟨rfl, h7⟩; subst w7) | (go_at_call 17; refine (frees_ok B6).mono ?_; rintro e w8 ⟨v8, rfl, B8, b8, C8⟩) | (go_at_call 18; refine C8.mono ?_; rintro e w9 ⟨v9, rfl, B9, b9, C9⟩) | (go_at_call 16; refine C9.mono ?_; rintro e w10 ⟨rfl, B10, b10⟩))
              go_roundg (gk - 1)
              case measure => omega
              case rel => exact ⟨j + 1, U, T, A6, by omega, by go_num, B10.more (by omega) (by omega)⟩
          · as_aux_lemma =>
              go_wp2_with (first | (go_at_call 19; refine (ralloc_some S0.ref (by omega) o ho6 hno).mono ?_; rintro e w1 ⟨z, rfl, k, q', hz, hB, R1, F1⟩; have S1 := S0.refd R1 F1; have y1 := S1.cell 1; simp only [List.getElem?_toArray, List.getElem?_cons_succ, List.getElem?_cons_zero] at y1) | (go_at_call 20; obtain ⟨A1, B1, k1, k2, k3⟩ := S1; refine (alloc_some B1.pool (by omega) o ho6 k q' hB).mono ?_; rintro e w2 ⟨rfl, t2⟩; rw [← hz] at t2 ⊢; have S2 := St.turn_at B1 k1 k2 k3 t2) | (go_at_call 8; refine (bare_nil _).mono ?_; rintro e w3 ⟨rfl, b3⟩; have S5 := S2.stay b3) | (go_at_call 23; obtain ⟨A6, B6, hx6, hA6, hr6⟩ := S5; refine (left_ok B6.pool).mono ?_; rintro e w6 ⟨rfl, h6⟩; subst w6) | (go_at_call 24; refine (rleft_ok B6.ref).mono ?_; rintro e w7 ⟨rfl, h7⟩; subst w7) | (go_at_call 17; refine (frees_ok B6).mono ?_; rintro e w8 ⟨v8, rfl, B8, b8, C8⟩) | (go_at_call 18; refine C8.mono ?_; rintro e w9 ⟨v9, rfl, B9, b9, C9⟩) | (go_at_call 16; refine C9.mono ?_; rintro e w10 ⟨rfl, B10, b10⟩))
              go_roundg (gk - 1)
              case measure => omega
              case rel => exact ⟨j + 1, _, _, A6, by omega, by go_num, B10.more (by omega) (by omega)⟩
        · have ho' : X < 0 ∨ 6 < X := by omega
          as_aux_lemma =>
            go_wp2_with (first | (go_at_call 19; refine (ralloc_arg _ r X ho').mono ?_; rintro e w1 ⟨rfl, h1⟩; subst w1) | (go_at_call 20; refine (alloc_arg _ b X ho').mono ?_; rintro e w2 ⟨rfl, h2⟩; subst w2) | (go_at_call 8; refine (bare_eno 1 _ (hgw _ S0.below)).mono ?_; rintro e w3 ⟨rfl, b3⟩; have S5 := S0.stay b3) | (go_at_call 23; obtain ⟨A6, B6, hx6, hA6, hr6⟩ := S5; refine (left_ok B6.pool).mono ?_; rintro e w6 ⟨rfl, h6⟩; subst w6) | (go_at_call 24; refine (rleft_ok B6.ref).mono ?_; rintro e w7 ⟨rfl, h7⟩; subst w7) | (go_at_call 17; refine (frees_ok B6).mono ?_; rintro e w8 ⟨v8, rfl, B8, b8, C8⟩) | (go_at_call 18; refine C8.mono ?_; rintro e w9 ⟨v9, rfl, B9, b9, C9⟩) | (go_at_call 16; refine C9.mono ?_; rintro e w10 ⟨rfl, B10, b10⟩))
            go_roundg (gk - 1)
            case measure => omega
            case rel => exact ⟨j + 1, U, T, A6, by omega, by go_num, B10.more (by omega) (by omega)⟩
      · by_cases hT : ∃ k : Nat, T X = some k ∧ (k : Int) = Y
        · as_aux_lemma =>
            obtain ⟨k, hTk, rfl⟩ := hT
            obtain ⟨_, p, hX, _⟩ := S0.inv.tk X k hTk
            have inv := S0.inv
            have hP : ∀ (W' : World) (U' : Nat → Bool) (T' : Int → Option Nat) (m' : Nat), St w b n r f g wr.heap.size #[.int .i64 W, .int .i64 X, .int .i64 k, .int .i64 Z] W' U T j U' T' m' → Calls Tryd.prog 21 #[pp b, .int .i64 X, .int .i64 k] W' fun e w' => e = .returned .nilIface ∧ St w b n r f g wr.heap.size #[.int .i64 W, .int .i64 X, .int .i64 k, .int .i64 Z] w' (join U k p) (fun z => if z = X then none else T z) j U' T' m' ∧ w'.cell? ⟨wr.heap.size, 1, none⟩ = some (.int .i64 X) ∧ w'.cell? ⟨wr.heap.size, 2, none⟩ = some (.int .i64 k) := by
              intro W' U' T' m' S
              obtain ⟨A1, B1, k1, k2, k3⟩ := S
              rw [hX] at hTk ⊢
              refine (give_ok B1.pool p k hTk).mono ?_
              rintro e w' ⟨rfl, t⟩
              have S' := St.turn_at B1 k1 k2 k3 t
              rw [hX] at S'
              exact ⟨rfl, S', by rw [S'.cell 1]; rfl, by rw [S'.cell 2]; rfl⟩
            have hR : ∀ (W' : World) (U' : Nat → Bool) (T' : Int → Option Nat) (m' : Nat), St w b n r f g wr.heap.size #[.int .i64 W, .int .i64 X, .int .i64 k, .int .i64 Z] W' U' T' m' U T j → Calls Tryd.prog 22 #[pp r, .int .i64 X, .int .i64 k] W' fun e w' => e = .returned (.int .i64 0) ∧ St w b n r f g wr.heap.size #[.int .i64 W, .int .i64 X, .int .i64 k, .int .i64 Z] w' U' T' m' (join U k p) (fun z => if z = X then none else T z) j ∧ w'.cell? ⟨wr.heap.size, 1, none⟩ = some (.int .i64 X) ∧ w'.cell? ⟨wr.heap.size, 2, none⟩ = some (.int .i64 k) := by
              intro W' U' T' m' S
              have S1 := S
              rw [hX] at hTk ⊢
              refine (rgive_ok S.ref inv p k hTk).mono ?_
              rintro e w' ⟨rfl, R, F⟩
              rw [← hX] at R
              have S' := S1.refd R F
              rw [hX] at S'
              exact ⟨rfl, S', by rw [S'.cell 1]; rfl, by rw [S'.cell 2]; rfl⟩
            clear hX hTk inv
            go_upto_region 18 with fail
            go_cut [105] (fun t wc => t = .bool false ∧ St w b n r f g wr.heap.size #[.int .i64 W, .int .i64 X, .int .i64 k, .int .i64 Z] wc (join U k p) (fun z => if z = X then none else T z) j (join U k p) (fun z => if z = X then none else T z) j)
            case first =>
              clear d0 d1 d2 d3
              go_region_held3 (fun w' => w'.cell? ⟨wr.heap.size, 1, none⟩ = some (.int .i64 X) ∧ w'.cell? ⟨wr.heap.size, 2, none⟩ = some (.int .i64 (k : Int))) (first | exact ⟨y1, y2⟩ | exact ⟨by simp, by simp⟩) (first
                | (go_at_call 21; refine (hP _ _ _ _ (by first | exact S1 | exact S0.stay ⟨rfl, rfl, rfl, Nat.le_refl _, fun _ _ => rfl⟩)).mono ?_; rintro e w1 ⟨rfl, S1, y1, y2⟩)
                | (go_at_call 22; refine (hR _ _ _ _ (by first | exact S1 | exact S0.stay ⟨rfl, rfl, rfl, Nat.le_refl _, fun _ _ => rfl⟩)).mono ?_; rintro e w1 ⟨rfl, S1, y1, y2⟩)
                | (go_at_call 8; refine (bare_nil _).mono ?_; rintro e w3 ⟨rfl, b3⟩; have S3 := S1.stay b3; have y1 : w3.cell? ⟨wr.heap.size, 1, none⟩ = some (.int .i64 X) := (S3.cell 1).trans rfl; have y2 : w3.cell? ⟨wr.heap.size, 2, none⟩ = some (.int .i64 (k : Int)) := (S3.cell 2).trans rfl))
              all_goals
                go_wp2_with fail
                go_meet
                case rel => exact ⟨rfl, S3⟩
            case rest =>
              obtain ⟨rfl, S5⟩ := hcut
              clear d0 d1 d2 d3 hP hR
              go_wp2_with (first | (go_at_call 23; obtain ⟨A6, B6, hx6, hA6, hr6⟩ := S5; refine (left_ok B6.pool).mono ?_; rintro e w6 ⟨rfl, h6⟩; subst w6) | (go_at_call 24; refine (rleft_ok B6.ref).mono ?_; rintro e w7 ⟨rfl, h7⟩; subst w7) | (go_at_call 17; refine (frees_ok B6).mono ?_; rintro e w8 ⟨v8, rfl, B8, b8, C8⟩) | (go_at_call 18; refine C8.mono ?_; rintro e w9 ⟨v9, rfl, B9, b9, C9⟩) | (go_at_call 16; refine C9.mono ?_; rintro e w10 ⟨rfl, B10, b10⟩))
              go_roundg (gk - 1)
              case measure => omega
              case rel => exact ⟨j + 1, _, _, A6, by omega, by go_num, B10.more (by omega) (by omega)⟩
        · as_aux_lemma =>
            have hno : ∀ k : Nat, T X = some k → (k : Int) ≠ Y := fun k h e => hT ⟨k, h, e⟩
            have hP : ∀ W' : World, St w b n r f g wr.heap.size #[.int .i64 W, .int .i64 X, .int .i64 Y, .int .i64 Z] W' U T j U T j → Calls Tryd.prog 21 #[pp b, .int .i64 X, .int .i64 Y] W' fun e w' => e = .returned (eno 7) ∧ St w b n r f g wr.heap.size #[.int .i64 W, .int .i64 X, .int .i64 Y, .int .i64 Z] w' U T j U T j ∧ w'.cell? ⟨wr.heap.size, 1, none⟩ = some (.int .i64 X) ∧ w'.cell? ⟨wr.heap.size, 2, none⟩ = some (.int .i64 Y) := by
              intro W' S
              have S' := S
              obtain ⟨A1, B1, k1, k2, k3⟩ := S
              refine (give_no B1.pool X Y hwf hno).mono ?_
              rintro e w' ⟨rfl, h'⟩
              subst w'
              exact ⟨rfl, S', (S'.cell 1).trans rfl, (S'.cell 2).trans rfl⟩
            have hR : ∀ W' : World, St w b n r f g wr.heap.size #[.int .i64 W, .int .i64 X, .int .i64 Y, .int .i64 Z] W' U T j U T j → Calls Tryd.prog 22 #[pp r, .int .i64 X, .int .i64 Y] W' fun e w' => e = .returned (.int .i64 7) ∧ St w b n r f g wr.heap.size #[.int .i64 W, .int .i64 X, .int .i64 Y, .int .i64 Z] w' U T j U T j ∧ w'.cell? ⟨wr.heap.size, 1, none⟩ = some (.int .i64 X) ∧ w'.cell? ⟨wr.heap.size, 2, none⟩ = some (.int .i64 Y) := by
              intro W' S
              refine (rgive_no S.ref X Y hwf hno).mono ?_
              rintro e w' ⟨rfl, h'⟩
              subst w'
              exact ⟨rfl, S, (S.cell 1).trans rfl, (S.cell 2).trans rfl⟩
            have hE : ∀ W' : World, St w b n r f g wr.heap.size #[.int .i64 W, .int .i64 X, .int .i64 Y, .int .i64 Z] W' U T j U T j → Calls Tryd.prog 8 #[eno 7, .int .i64 7] W' fun e w' => e = .returned (.bool true) ∧ St w b n r f g wr.heap.size #[.int .i64 W, .int .i64 X, .int .i64 Y, .int .i64 Z] w' U T j U T j ∧ w'.cell? ⟨wr.heap.size, 1, none⟩ = some (.int .i64 X) ∧ w'.cell? ⟨wr.heap.size, 2, none⟩ = some (.int .i64 Y) := by
              intro W' S
              refine (bare_eno 7 _ (hgw _ S.below)).mono ?_
              rintro e w' ⟨rfl, b'⟩
              have S' := S.stay b'
              exact ⟨rfl, S', (S'.cell 1).trans rfl, (S'.cell 2).trans rfl⟩
            clear hno hT
            go_upto_region 18 with fail
            go_cut [105] (fun t wc => t = .bool false ∧ St w b n r f g wr.heap.size #[.int .i64 W, .int .i64 X, .int .i64 Y, .int .i64 Z] wc U T j U T j)
            case first =>
              clear d0 d1 d2 d3
              go_region_held3 (fun w' => w'.cell? ⟨wr.heap.size, 1, none⟩ = some (.int .i64 X) ∧ w'.cell? ⟨wr.heap.size, 2, none⟩ = some (.int .i64 Y)) (first | exact ⟨y1, y2⟩ | exact ⟨by simp, by simp⟩) (first
                | (go_at_call 21; refine (hP _ ?_).mono ?_; (first | exact S1 | exact S0.stay ⟨rfl, rfl, rfl, Nat.le_refl _, fun _ _ => rfl⟩); rintro e w1 ⟨rfl, S1, y1, y2⟩)
                | (go_at_call 22; refine (hR _ ?_).mono ?_; (first | exact S1 | exact S0.stay ⟨rfl, rfl, rfl, Nat.le_refl _, fun _ _ => rfl⟩); rintro e w1 ⟨rfl, S1, y1, y2⟩)
                | (go_at_call 8; refine (hE _ ?_).mono ?_; exact S1; rintro e w3 ⟨rfl, S3, y1, y2⟩))
              all_goals
                go_wp2_with fail
                go_meet
                case rel => exact ⟨rfl, S3⟩
            case rest =>
              obtain ⟨rfl, S5⟩ := hcut
              clear d0 d1 d2 d3 hP hR
              go_wp2_with (first | (go_at_call 23; obtain ⟨A6, B6, hx6, hA6, hr6⟩ := S5; refine (left_ok B6.pool).mono ?_; rintro e w6 ⟨rfl, h6⟩; subst w6) | (go_at_call 24; refine (rleft_ok B6.ref).mono ?_; rintro e w7 ⟨rfl, h7⟩; subst w7) | (go_at_call 17; refine (frees_ok B6).mono ?_; rintro e w8 ⟨v8, rfl, B8, b8, C8⟩) | (go_at_call 18; refine C8.mono ?_; rintro e w9 ⟨v9, rfl, B9, b9, C9⟩) | (go_at_call 16; refine C9.mono ?_; rintro e w10 ⟨rfl, B10, b10⟩))
              go_roundg (gk - 1)
              case measure => omega
              case rel => exact ⟨j + 1, U, T, A6, by omega, by go_num, B10.more (by omega) (by omega)⟩
    · go_wp2_with fail
      go_ret
      exact ⟨rfl, B.below⟩
end Go.Proofs.YtaggodghaemkiaaDoor

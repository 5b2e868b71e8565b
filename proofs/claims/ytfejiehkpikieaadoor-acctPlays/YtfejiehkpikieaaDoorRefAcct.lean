/- The document's own ledger: what its Limit and Charge do to a world, by their Go texts. -/
import Derived.Test.YtfejiehkpikieaaDoorCharge
namespace Go.Proofs.YtfejiehkpikieaaDoor
open Go.RowKit

set_option maxHeartbeats 400000 in
theorem in_yes (w : World) (n lo hi : Int) (h1 : lo ≤ n) (h2 : n ≤ hi) :
    Calls Tryd.prog 64 #[.int .i64 n, .int .i64 lo, .int .i64 hi] w fun e w' => e = .returned (.bool true) ∧ w' = w := by
  go_enter Tryd.func64, Tryd.ntmps64
  go_wp2
  go_ret
  exact ⟨rfl, rfl⟩

set_option maxHeartbeats 400000 in
theorem in_not (w : World) (n lo hi : Int) (h : ¬ (lo ≤ n ∧ n ≤ hi)) :
    Calls Tryd.prog 64 #[.int .i64 n, .int .i64 lo, .int .i64 hi] w fun e w' => e = .returned (.bool false) ∧ w' = w := by
  by_cases h1 : lo ≤ n
  · have h2 : ¬ n ≤ hi := fun h2 => h ⟨h1, h2⟩
    clear h
    go_enter Tryd.func64, Tryd.ntmps64
    go_wp2
    go_ret
    exact ⟨rfl, rfl⟩
  · clear h
    go_enter Tryd.func64, Tryd.ntmps64
    go_wp2
    go_ret
    exact ⟨rfl, rfl⟩

set_option maxHeartbeats 400000 in
theorem rlimit_arg (w : World) (b : Nat) (k n : Int) (h : ¬ (0 ≤ k ∧ k < 3)) :
    Calls Tryd.prog 49 #[lp b, .int .i64 k, .int .i64 n] w fun e w' => e = .returned (.int .i64 1) ∧ w' = w := by
  have h' : ¬ (0 ≤ k ∧ k ≤ 2) := by omega
  go_enter Tryd.func49, Tryd.ntmps49
  go_wp2_with (go_at_call 64; refine (in_not _ k 0 2 h').mono ?_; rintro e w' ⟨rfl, rfl⟩)
  go_ret
  exact ⟨rfl, rfl⟩

set_option maxHeartbeats 400000 in
theorem rlimit_range (w : World) (b : Nat) (k n : Int) (h : 0 ≤ k ∧ k < 3) (hn : ¬ (0 ≤ n ∧ n ≤ 1000000)) :
    Calls Tryd.prog 49 #[lp b, .int .i64 k, .int .i64 n] w fun e w' => e = .returned (.int .i64 2) ∧ w' = w := by
  go_enter Tryd.func49, Tryd.ntmps49
  go_wp2_with fail
  refine (in_yes _ k 0 2 h.1 (by omega)).mono ?_
  rintro e w' ⟨rfl, rfl⟩
  go_wp2_with fail
  refine (in_not _ n 0 1000000 hn).mono ?_
  rintro e w' ⟨rfl, rfl⟩
  go_wp2_with fail
  go_ret
  exact ⟨rfl, rfl⟩

set_option maxHeartbeats 400000 in
theorem rlimit_ok {w : World} {b : Nat} {U M : Nat → Int} (l : Led w b U M) (k n : Int) (h1 : 0 ≤ k) (h2 : k < 3) (h3 : 0 ≤ n) (h4 : n ≤ 1000000) :
    Calls Tryd.prog 49 #[lp b, .int .i64 k, .int .i64 n] w fun e w' => e = .returned (.int .i64 0) ∧ Led w' b U (put M k.toNat n) ∧ w.grownBy w' (some b) := by
  have c := l.may k.toNat (by omega)
  have f := l.live (3 + k.toNat) (by omega)
  go_enter Tryd.func49, Tryd.ntmps49
  go_wp2_with fail
  refine (in_yes _ k 0 2 h1 (by omega)).mono ?_
  rintro e w' ⟨rfl, rfl⟩
  go_wp2_with fail
  refine (in_yes _ n 0 1000000 h3 h4).mono ?_
  rintro e w' ⟨rfl, rfl⟩
  go_wp2_with fail
  go_ret
  exact ⟨rfl, l.may_put _ (by omega) n, lgrown_set _ _ _ _⟩

/-- The document's word for 'all is well', as its text lays it. -/
def Well (w : World) : Prop := w.cell? ⟨0, 0, none⟩ = some (.int .i64 0) ∧ w.cell? ⟨0, 1, none⟩ = some (.int .i64 (-1))

theorem Well.below {w w' : World} {B : Nat} (h : Well w) (hb : Below B w w') (hB : w.heap.size ≤ B) : Well w' := by
  have hl : 0 < w.heap.size := World.block_lt_of_cell? w _ h.1
  exact ⟨by rw [hb.cell (p := ⟨0, 0, none⟩) (Nat.lt_of_lt_of_le hl hB)]; exact h.1, by rw [hb.cell (p := ⟨0, 1, none⟩) (Nat.lt_of_lt_of_le hl hB)]; exact h.2⟩

set_option maxRecDepth 100000 in
set_option maxHeartbeats 4000000 in
theorem rcharge_go {w : World} {b : Nat} {U M : Nat → Int} (l : Led w b U M) (hU : Fit U) (hM : Fit M) (hW : Well w) (hbf : b ≠ 0) (ad : Option Addr) (len cap : Nat) (q : Nat → Want) (hq : Asks w ad len q) (hl : len ≤ 1000) :
    Calls Tryd.prog 52 #[lp b, .slice ad len cap] w fun e w' =>
      (Fine U M q len ∧ e = .returned (.agg #[.int .i64 0, .int .i64 (-1)]) ∧ Led w' b (upon U q len) M ∧ w.grownBy w' (some b)) ∨
      ∃ p, p < len ∧ Fine U M q p ∧ fault U M q p ≠ 0 ∧ e = .returned (.agg #[.int .i64 (fault U M q p), .int .i64 p]) ∧ Below w.heap.size w w' := by
  have hl' : (len : Int) ≤ 1000 := by omega
  have l1 := l.more (.cells #[.int .i64 0, .int .i64 0] 97)
  have u0 := l1.has 0 (by omega)
  have u1 := l1.has 1 (by omega)
  have u2 := l1.has 2 (by omega)
  have m0 : (w.alloc (.cells #[.int .i64 0, .int .i64 0] 97)).cell? ⟨b, 3, none⟩ = some (.int .i64 (M 0)) := l1.may 0 (by omega)
  have m1 : (w.alloc (.cells #[.int .i64 0, .int .i64 0] 97)).cell? ⟨b, 4, none⟩ = some (.int .i64 (M 1)) := l1.may 1 (by omega)
  have m2 : (w.alloc (.cells #[.int .i64 0, .int .i64 0] 97)).cell? ⟨b, 5, none⟩ = some (.int .i64 (M 2)) := l1.may 2 (by omega)
  go_enter Tryd.func52, Tryd.ntmps52
  go_wp2_with fail
  have L0 : Led ((w.alloc (.cells #[.int .i64 0, .int .i64 0] 97)).alloc (.cells #[.int .i64 (U 0), .int .i64 (U 1), .int .i64 (U 2), .int .i64 (M 0), .int .i64 (M 1), .int .i64 (M 2)] 89)) (w.heap.size + 1) U M := by
    have := led_new (w.alloc (.cells #[.int .i64 0, .int .i64 0] 97)) U M 89
    simpa [six] using this
  have B0 : Below w.heap.size w ((w.alloc (.cells #[.int .i64 0, .int .i64 0] 97)).alloc (.cells #[.int .i64 (U 0), .int .i64 (U 1), .int .i64 (U 2), .int .i64 (M 0), .int .i64 (M 1), .int .i64 (M 2)] 89)) := ((Below.refl _ _).alloc (Nat.le_refl _) _).alloc (by simp) _
  have R0 : ((w.alloc (.cells #[.int .i64 0, .int .i64 0] 97)).alloc (.cells #[.int .i64 (U 0), .int .i64 (U 1), .int .i64 (U 2), .int .i64 (M 0), .int .i64 (M 1), .int .i64 (M 2)] 89)).heap[w.heap.size]? = some (.cells #[.int .i64 0, .int .i64 0] 97) := by
    rw [Below.heap_alloc _ _ _ (by simp)]
    show (w.heap.push _)[w.heap.size]? = _
    rw [Array.getElem?_push, if_pos rfl]
  clear u0 u1 u2 m0 m1 m2 l1
  go_loopg [14] len (fun k s14 wr => ∃ j : Nat, j + k = len ∧ s14 = .int .i64 j ∧ Fine U M q j ∧ Led wr (w.heap.size + 1) (upon U q j) M ∧ Below w.heap.size w wr ∧ wr.heap[w.heap.size]? = some (.cells #[.int .i64 0, .int .i64 0] 97))
  case atStart => exact ⟨0, by omega, rfl, fun _ h => absurd h (Nat.not_lt_zero _), L0, B0, R0⟩
  case round =>
    clear L0 B0 R0
    obtain ⟨j, hj, rfl, hF, L, B, R⟩ := hrel
    have FI := lhide hF
    have hfit := Fine.fit hU hM hF
    have hs2 := L.lt
    by_cases hlt : (j : Int) < (len : Int)
    · rcases hq with h0 | ⟨blk, off, rfl, hbl, hqq⟩
      · exfalso; omega
      obtain ⟨c0, c1⟩ := hqq j (by omega)
      have d0 : wr.cell? ⟨blk, off + j * 2, none⟩ = some (.int .i64 (q j).kind) := by rw [B.cell (p := ⟨blk, off + j * 2, none⟩) hbl]; exact c0
      have d1 : wr.cell? ⟨blk, off + j * 2 + 1, none⟩ = some (.int .i64 (q j).n) := by rw [B.cell (p := ⟨blk, off + j * 2 + 1, none⟩) hbl]; exact c1
      clear c0 c1 hqq hF
      have hnext := fun h : fault U M q j = 0 => FI.out.next h
      have hfd : fault U M q j = why (upon U q j) M (q j).kind (q j).n := rfl
      have haf : upon U q (j + 1) = after (upon U q j) (q j).kind (q j).n := rfl
      obtain ⟨V, hV⟩ : ∃ V, upon U q j = V := ⟨_, rfl⟩
      rw [hV] at L hfit hfd haf
      obtain ⟨k, hk⟩ : ∃ k, (q j).kind = k := ⟨_, rfl⟩
      obtain ⟨n, hn⟩ : ∃ n, (q j).n = n := ⟨_, rfl⟩
      rw [hk] at d0 hfd haf
      rw [hn] at d1 hfd haf
      have L1 := L.more (.cells #[.int .i64 k, .int .i64 n] 93)
      have lb := (l.keep (B.block b l.lt)).more (.cells #[.int .i64 k, .int .i64 n] 93)
      have B1 : Below w.heap.size w (wr.alloc (.cells #[.int .i64 k, .int .i64 n] 93)) := B.alloc (by omega) _
      have R1 : (wr.alloc (.cells #[.int .i64 k, .int .i64 n] 93)).heap[w.heap.size]? = some (.cells #[.int .i64 0, .int .i64 0] 97) := by rw [Below.heap_alloc _ _ _ (by omega)]; exact R
      have r0 : (wr.alloc (.cells #[.int .i64 k, .int .i64 n] 93)).cell? ⟨w.heap.size, 0, none⟩ = some (.int .i64 0) := by simp [World.cell?, R1]
      have r1 : (wr.alloc (.cells #[.int .i64 k, .int .i64 n] 93)).cell? ⟨w.heap.size, 1, none⟩ = some (.int .i64 0) := by simp [World.cell?, R1]
      have r2 : (wr.alloc (.cells #[.int .i64 k, .int .i64 n] 93)).frozen? ⟨w.heap.size, 0, none⟩ = false := by simp [World.frozen?, R1]
      have r3 : (wr.alloc (.cells #[.int .i64 k, .int .i64 n] 93)).frozen? ⟨w.heap.size, 1, none⟩ = false := by simp [World.frozen?, R1]
      clear hV hk hn R
      by_cases hf : why V M k n = 0
      · as_aux_lemma =>
          obtain ⟨⟨h1, h1'⟩, ⟨h2, h2'⟩, h3, h4⟩ := why_ok hf
          have c := L1.has k.toNat (by omega)
          have m := lb.may k.toNat (by omega)
          have f := L1.live k.toNat (by omega)
          have a1 := (hfit k.toNat).1
          have a2 := (hfit k.toNat).2
          have b1 := (hM k.toNat).1
          have b2 := (hM k.toNat).2
          have L2 : Hid (Led ((wr.alloc (.cells #[.int .i64 k, .int .i64 n] 93)).setCell ⟨w.heap.size + 1, k.toNat, none⟩ (.int .i64 (V k.toNat + n))) (w.heap.size + 1) (after V k n) M) := lhide (L1.has_put k.toNat (by omega) (V k.toNat + n))
          have g2 := lhide (lgrown_set (wr.alloc (.cells #[.int .i64 k, .int .i64 n] 93)) (w.heap.size + 1) k.toNat (.int .i64 (V k.toNat + n)))
          have HA := lhide haf
          have HN := lhide (hnext (hfd.trans hf))
          have HB := lhide B1
          have HR := lhide R1
          clear hnext hfd haf hf L1 lb B1 R1 r0 r1 r2 r3
          generalize V k.toNat = v at *
          generalize M k.toNat = t at *
          by_cases h7 : 0 < n
          · have h8 := h3 h7
            have h9 : ¬ t < v + n := by omega
            clear h3
            go_wp2_with fail
            refine (in_yes _ k 0 2 h1 (by omega)).mono ?_
            rintro e w2 ⟨rfl, rfl⟩
            go_wp2_with fail
            refine (in_yes _ n (-1000000) 1000000 h2 h2').mono ?_
            rintro e w2 ⟨rfl, rfl⟩
            go_wp2_with fail
            go_quiet (fail)
            go_wp2_with fail
            go_quiet (fail)
            go_wp2_with fail
            go_roundg (gk - 1)
            case measure => omega
            case rel => exact ⟨j + 1, by omega, by go_num, HN.out, by rw [HA.out]; exact Led.keep L2.out rfl, below_of_grown HB.out (lgrown_like g2.out rfl rfl rfl rfl) (by omega), by rw [← HR.out]; exact g2.out.block w.heap.size (by simp; omega) (fun h => by injection h with h; omega)⟩
          · have hd : decide (0 < n) = false := by simpa using h7
            clear h3
            go_wp2_with fail
            refine (in_yes _ k 0 2 h1 (by omega)).mono ?_
            rintro e w2 ⟨rfl, rfl⟩
            go_wp2_with fail
            refine (in_yes _ n (-1000000) 1000000 h2 h2').mono ?_
            rintro e w2 ⟨rfl, rfl⟩
            go_wp2_with fail
            go_quiet (fail)
            go_wp2_with fail
            go_quiet (fail)
            go_wp2_with fail
            go_roundg (gk - 1)
            case measure => omega
            case rel => exact ⟨j + 1, by omega, by go_num, HN.out, by rw [HA.out]; exact Led.keep L2.out rfl, below_of_grown HB.out (lgrown_like g2.out rfl rfl rfl rfl) (by omega), by rw [← HR.out]; exact g2.out.block w.heap.size (by simp; omega) (fun h => by injection h with h; omega)⟩
      · have bset : ∀ c : Int, Below w.heap.size w (((wr.alloc (.cells #[.int .i64 k, .int .i64 n] 93)).setCell ⟨w.heap.size, 0, none⟩ (.int .i64 c)).setCell ⟨w.heap.size, 1, none⟩ (.int .i64 (j : Int))) := fun c => (B1.setCell (p := ⟨w.heap.size, 0, none⟩) (Nat.le_refl _) _).setCell (p := ⟨w.heap.size, 1, none⟩) (Nat.le_refl _) _
        rcases why_no hf with ⟨h1, e⟩ | ⟨h1, h2, e⟩ | ⟨⟨h1, h1'⟩, ⟨h2, h2'⟩, h3, h4, e⟩ | ⟨⟨h1, h1'⟩, ⟨h2, h2'⟩, h3, h4, e⟩ | ⟨h1, h2, h3, h4, h5, e⟩
        · as_aux_lemma =>
            have h1' : ¬ (0 ≤ k ∧ k ≤ 2) := by omega
            go_wp2_with fail
            refine (in_not _ k 0 2 h1').mono ?_
            rintro e w2 ⟨rfl, rfl⟩
            go_wp2_with fail
            exact bodyPost_ret (v := .agg #[.int .i64 1, .int .i64 (j : Int)]) (by simp [results, Tryd.results52, go_sem, r0, r1]) rfl (.inr ⟨j, by omega, FI.out, by rw [hfd]; exact hf, by rw [hfd, e], bset 1⟩)
        · as_aux_lemma =>
            go_wp2_with fail
            refine (in_yes _ k 0 2 h1.1 (by omega)).mono ?_
            rintro e w2 ⟨rfl, rfl⟩
            go_wp2_with fail
            refine (in_not _ n (-1000000) 1000000 h2).mono ?_
            rintro e w2 ⟨rfl, rfl⟩
            go_wp2_with fail
            exact bodyPost_ret (v := .agg #[.int .i64 2, .int .i64 (j : Int)]) (by simp [results, Tryd.results52, go_sem, r0, r1]) rfl (.inr ⟨j, by omega, FI.out, by rw [hfd]; exact hf, by rw [hfd, e], bset 2⟩)
        · as_aux_lemma =>
            have c := L1.has k.toNat (by omega)
            have m := lb.may k.toNat (by omega)
            have a1 := (hfit k.toNat).1
            have a2 := (hfit k.toNat).2
            have b1 := (hM k.toNat).1
            have b2 := (hM k.toNat).2
            have HD := lhide hfd
            have HE := lhide e
            have HF := lhide hf
            clear hfd e hf hnext haf
            generalize V k.toNat = v at *
            generalize M k.toNat = t at *
            go_wp2_with fail
            refine (in_yes _ k 0 2 h1 (by omega)).mono ?_
            rintro e w2 ⟨rfl, rfl⟩
            go_wp2_with fail
            refine (in_yes _ n (-1000000) 1000000 h2 h2').mono ?_
            rintro e w2 ⟨rfl, rfl⟩
            go_wp2_with fail
            go_quiet (fail)
            go_wp2_with fail
            go_quiet (fail)
            go_wp2_with fail
            have hf := HF.out
            exact bodyPost_ret (v := .agg #[.int .i64 4, .int .i64 (j : Int)]) (by simp [results, Tryd.results52, go_sem, r0, r1]) rfl (.inr ⟨j, by omega, FI.out, by rw [HD.out]; exact hf, by rw [HD.out, HE.out], by have := bset 4; exact ⟨this.os, this.tape, this.output, this.size, this.block⟩⟩)
        · as_aux_lemma =>
            have c := L1.has k.toNat (by omega)
            have a1 := (hfit k.toNat).1
            have a2 := (hfit k.toNat).2
            have hd : decide (0 < n) = false := by simpa using h3
            have HD := lhide hfd
            have HE := lhide e
            have HF := lhide hf
            clear hfd e hf hnext haf
            generalize V k.toNat = v at *
            go_wp2_with fail
            refine (in_yes _ k 0 2 h1 (by omega)).mono ?_
            rintro e w2 ⟨rfl, rfl⟩
            go_wp2_with fail
            refine (in_yes _ n (-1000000) 1000000 h2 h2').mono ?_
            rintro e w2 ⟨rfl, rfl⟩
            go_wp2_with fail
            go_quiet (fail)
            go_wp2_with fail
            go_quiet (fail)
            go_wp2_with fail
            have hf := HF.out
            exact bodyPost_ret (v := .agg #[.int .i64 6, .int .i64 (j : Int)]) (by simp [results, Tryd.results52, go_sem, r0, r1]) rfl (.inr ⟨j, by omega, FI.out, by rw [HD.out]; exact hf, by rw [HD.out, HE.out], by have := bset 6; exact ⟨this.os, this.tape, this.output, this.size, this.block⟩⟩)
        · have := (hfit k.toNat).1
          exfalso; omega
    · obtain rfl : j = len := by omega
      have t0 := L.has 0 (by omega)
      have t1 := L.has 1 (by omega)
      have t2 := L.has 2 (by omega)
      have t3 : wr.cell? ⟨w.heap.size + 1, 3, none⟩ = some (.int .i64 (M 0)) := L.may 0 (by omega)
      have t4 : wr.cell? ⟨w.heap.size + 1, 4, none⟩ = some (.int .i64 (M 1)) := L.may 1 (by omega)
      have t5 : wr.cell? ⟨w.heap.size + 1, 5, none⟩ = some (.int .i64 (M 2)) := L.may 2 (by omega)
      have hbl := l.lt
      have lb : Led wr b U M := l.keep (B.block b l.lt)
      have s0 := lb.has 0 (by omega)
      have s1 := lb.has 1 (by omega)
      have s2 := lb.has 2 (by omega)
      have s3 : wr.cell? ⟨b, 3, none⟩ = some (.int .i64 (M 0)) := lb.may 0 (by omega)
      have s4 : wr.cell? ⟨b, 4, none⟩ = some (.int .i64 (M 1)) := lb.may 1 (by omega)
      have s5 : wr.cell? ⟨b, 5, none⟩ = some (.int .i64 (M 2)) := lb.may 2 (by omega)
      have f0 := lb.live 0 (by omega)
      have f1 := lb.live 1 (by omega)
      have f2 := lb.live 2 (by omega)
      have f3 := lb.live 3 (by omega)
      have f4 := lb.live 4 (by omega)
      have f5 := lb.live 5 (by omega)
      have L9 := led_store lb (upon U q j) M
      have g9 := grown_store wr b (.int .i64 (upon U q j 0)) (.int .i64 (upon U q j 1)) (.int .i64 (upon U q j 2)) (.int .i64 (M 0)) (.int .i64 (M 1)) (.int .i64 (M 2))
      obtain ⟨w9, e9⟩ : ∃ w9, ((((((wr.setCell ⟨b, 0, none⟩ (.int .i64 (upon U q j 0))).setCell ⟨b, 1, none⟩ (.int .i64 (upon U q j 1))).setCell ⟨b, 2, none⟩ (.int .i64 (upon U q j 2))).setCell ⟨b, 3, none⟩ (.int .i64 (M 0))).setCell ⟨b, 4, none⟩ (.int .i64 (M 1))).setCell ⟨b, 5, none⟩ (.int .i64 (M 2))) = w9 := ⟨_, rfl⟩
      rw [e9] at L9 g9
      have hfl : 0 < w.heap.size := World.block_lt_of_cell? w _ hW.1
      have hfb : w9.heap[0]? = w.heap[0]? := (g9.block _ (by have := B.size; omega) (fun h => by injection h with h; omega)).trans (B.block _ hfl)
      have y0 : w9.cell? ⟨0, 0, none⟩ = some (.int .i64 0) := by rw [World.cell?_of_block (w := w) (a := ⟨0, 0, none⟩) hfb]; exact hW.1
      have y1 : w9.cell? ⟨0, 1, none⟩ = some (.int .i64 (-1)) := by rw [World.cell?_of_block (w := w) (a := ⟨0, 1, none⟩) hfb]; exact hW.2
      have R9 : w9.heap[w.heap.size]? = some (.cells #[.int .i64 0, .int .i64 0] 97) := (g9.block _ (by omega) (fun h => by injection h with h; omega)).trans R
      have r0 : w9.cell? ⟨w.heap.size, 0, none⟩ = some (.int .i64 0) := by simp [World.cell?, R9]
      have r1 : w9.cell? ⟨w.heap.size, 1, none⟩ = some (.int .i64 0) := by simp [World.cell?, R9]
      have r2 : w9.frozen? ⟨w.heap.size, 0, none⟩ = false := by simp [World.frozen?, R9]
      have r3 : w9.frozen? ⟨w.heap.size, 1, none⟩ = false := by simp [World.frozen?, R9]
      have gw : w.grownBy w9 (some b) := lgrown_then (show w.grownBy wr (some b) from ⟨B.os, B.tape, B.output, B.size, fun i hi _ => B.block i hi⟩) g9
      clear hfb R9 R hF L B hW hfit
      go_upto_region 17 with fail
      clear t0 t1 t2 t3 t4 t5 s0 s1 s2 s3 s4 s5 f0 f1 f2 f3 f4 f5 lb
      go_wp2_with fail
      refine bodyPost_ret (v := .agg #[.int .i64 0, .int .i64 (-1)]) (by simp [results, Tryd.results52, go_sem, r0, r1]) rfl (.inl ⟨FI.out, rfl, ?_, ?_⟩)
      · exact L9.keep ((Below.heap_setCell _ _ _ _ (by intro e; simp only at e; omega)).trans (Below.heap_setCell _ _ _ _ (by intro e; simp only at e; omega)))
      · have g2 := lgrown_then (lgrown_set w9 w.heap.size 0 (.int .i64 0)) (lgrown_set _ w.heap.size 1 (.int .i64 (-1)))
        exact ⟨g2.os.trans gw.os, g2.tape.trans gw.tape, g2.output.trans gw.output, Nat.le_trans gw.size g2.size, fun i hi hn => (g2.block i (Nat.lt_of_lt_of_le hi gw.size) (fun h => by injection h with h; omega)).trans (gw.block i hi hn)⟩
end Go.Proofs.YtfejiehkpikieaaDoor

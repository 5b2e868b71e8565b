/- AcctWhole: the walk of its Go text. -/
import Derived.Test.YtfejiehkpikieaaDoorTri
import Derived.Test.YtfejiehkpikieaaDoorPick
import Derived.Deep.RegionHeld3
import Derived.WalkSmall
import Derived.Deep.CutBlock
namespace Go.Proofs.YtfejiehkpikieaaDoor
open Go.RowKit

/-- Numbers lie in an array. -/
def Ints (w : World) (ad : Option Addr) (len : Nat) (q : Nat → Int) : Prop :=
  len = 0 ∨ ∃ blk off, ad = some ⟨blk, off, none⟩ ∧ blk < w.heap.size ∧ ∀ i, i < len → w.cell? ⟨blk, off + i, none⟩ = some (.int .i64 (q i))

/-- One list of asks within a list of these. -/
structure Inner where
  ad : Option Addr
  len : Nat
  cap : Nat
  q : Nat → Want

/-- Lists of asks lie in an array. -/
def Lists (w : World) (ad : Option Addr) (len : Nat) (r : Nat → Inner) : Prop :=
  len = 0 ∨ ∃ blk off, ad = some ⟨blk, off, none⟩ ∧ blk < w.heap.size ∧ ∀ i, i < len →
    w.cell? ⟨blk, off + i, none⟩ = some (.slice (r i).ad (r i).len (r i).cap) ∧ (r i).len ≤ (r i).cap ∧ Asks w (r i).ad (r i).len (r i).q

set_option maxRecDepth 100000 in
set_option maxHeartbeats 1000000 in
theorem awhole_long (la : Option Addr) (llen lcap : Nat) (ad : Option Addr) (len cap : Nat) (w : World) (h : 20 < llen ∨ 30 < len) :
    Calls Tryd.prog 10 #[.slice la llen lcap, .slice ad len cap] w fun e w' => e = .returned (.bool true) ∧ Below w.heap.size w w' := by
  by_cases h1 : (20 : Int) < (llen : Int)
  · go_enter Tryd.func10, Tryd.ntmps10
    go_wp2_with fail
    go_ret
    exact ⟨rfl, Below.refl _ _⟩
  · have h2 : (30 : Int) < (len : Int) := by omega
    go_enter Tryd.func10, Tryd.ntmps10
    go_wp2_with fail
    go_ret
    exact ⟨rfl, Below.refl _ _⟩

set_option maxRecDepth 100000 in
set_option maxHeartbeats 8000000 in
theorem awhole_short (la : Option Addr) (llen lcap : Nat) (qi : Nat → Int) (ad : Option Addr) (len cap : Nat) (r : Nat → Inner) (w : World) (h1 : llen ≤ 20) (h2 : len ≤ 30) (hi : Ints w la llen qi) (hr : Lists w ad len r) (hg : w.cell? ⟨1, 0, none⟩ = some errT) :
    Calls Tryd.prog 10 #[.slice la llen lcap, .slice ad len cap] w fun e w' => e = .returned (.bool true) ∧ Below w.heap.size w w' := by
  have h1' : ¬ (20 : Int) < (llen : Int) := by omega
  have h2' : ¬ (30 : Int) < (len : Int) := by omega
  go_enter Tryd.func10, Tryd.ntmps10
  go_wp2_with fail
  refine (charged_ok _ hg).mono ?_
  rintro e w1 ⟨rfl, b1⟩
  have L0 := led_zero w1 87
  have B0 : Below w.heap.size w (w1.alloc (.cells #[.int .i64 0, .int .i64 0, .int .i64 0, .int .i64 0, .int .i64 0, .int .i64 0] 87)) := b1.alloc b1.size _
  have hA := b1.size
  go_upto_block 0 with fail
  go_cut [6] (fun _ wc => ∃ M, Fit M ∧ Led wc w1.heap.size (fun _ => 0) M ∧ Below w.heap.size w wc)
  case first =>
    as_aux_lemma =>
      go_wp2_with fail
      go_loopg [6] 3 (fun k s6 wr => ∃ (j : Nat) (M : Nat → Int), j + k = 3 ∧ s6 = .int .i64 j ∧ Fit M ∧ Led wr w1.heap.size (fun _ => 0) M ∧ Below w.heap.size w wr)
      case atStart => exact ⟨0, fun _ => 0, by omega, rfl, fit_zero, L0, B0⟩
      case round =>
        clear L0 B0
        obtain ⟨j, M, hj, rfl, fM, L, B⟩ := hrel
        by_cases hlt : (j : Int) < (llen : Int)
        · by_cases hl3 : (j : Int) < 3
          · rcases hi with h0 | ⟨blk, off, rfl, hbl, hqi⟩
            · exfalso; omega
            have d0 : wr.cell? ⟨blk, off + j, none⟩ = some (.int .i64 (qi j)) := by rw [B.cell (p := ⟨blk, off + j, none⟩) hbl]; exact hqi j (by omega)
            clear hqi
            go_wp2_with fail
            refine (ppick_any _ (qi j) 100 (by decide) (by decide)).mono ?_
            rintro e w2 ⟨r, rfl, hr, h2⟩
            subst w2
            go_wp2_with fail
            refine (limit_ok L (j : Int) (r : Int) (by omega) hl3 (by omega) (by omega)).mono ?_
            rintro e w2 ⟨rfl, L2, g2⟩
            go_wp2_with fail
            go_roundg (gk - 1)
            case measure => omega
            case rel => exact ⟨j + 1, _, by omega, by go_num, fM.put _ _ (by omega) (by omega), L2, below_of_grown B g2 hA⟩
          · go_wp2_with fail
            go_meet
            case rel => exact ⟨M, fM, L, B⟩
        · go_wp2_with fail
          go_meet
          case rel => exact ⟨M, fM, L, B⟩
  case rest =>
    obtain ⟨M, fM, L, B⟩ := hcut
    clear L0 B0 hi hg b1
    go_wp2_with fail
    go_loopg [7] len (fun k s7 wr => ∃ (j : Nat) (U : Nat → Int), j + k = len ∧ s7 = .int .i64 j ∧ Fit U ∧ (∀ i, U i ≤ M i) ∧ Led wr w1.heap.size U M ∧ Below w.heap.size w wr)
    case atStart => exact ⟨0, fun _ => 0, by omega, rfl, fit_zero, fun i => (fM i).1, L, B⟩
    case round =>
      clear L B
      obtain ⟨j, U, hj, rfl, fU, hle, L, B⟩ := hrel
      by_cases hlt : (j : Int) < (len : Int)
      · rcases hr with h0 | ⟨blk, off, rfl, hbl, hrr⟩
        · exfalso; omega
        obtain ⟨c0, hcap, hAsk⟩ := hrr j (by omega)
        have hd : ∀ W : World, Below w.heap.size w W → W.cell? ⟨blk, off + j, none⟩ = some (.slice (r j).ad (r j).len (r j).cap) := fun W hW => by rw [hW.cell (p := ⟨blk, off + j, none⟩) hbl]; exact c0
        have hAk : ∀ W : World, Below w.heap.size w W → Asks W (r j).ad (r j).len (r j).q := fun W hW => hAsk.below hW
        clear c0 hAsk hrr
        generalize (r j).ad = ia at *
        generalize (r j).len = il at *
        generalize (r j).cap = ic at *
        generalize (r j).q = q at *
        have d := hd _ B
        by_cases hlong : (20 : Int) < (il : Int)
        · go_wp2_with fail
          go_ret
          exact ⟨rfl, B⟩
        · have T0 := tri_new L B hA 87 85
          go_upto_block 4 with fail
          obtain ⟨Z, hZ⟩ : ∃ Z, wr.heap.size = Z := ⟨_, rfl⟩
          rw [hZ] at T0 ⊢
          clear hZ
          go_cut [10] (fun _ wc => Tri w w1.heap.size Z (Z + 1) wc U M U M U)
          case first =>
            as_aux_lemma =>
              clear d hd hAk hlong hcap
              go_wp2_with fail
              go_loopg [10] 3 (fun n s10 wx => ∃ k : Nat, k + n = 3 ∧ s10 = .int .i64 k ∧ Tri w w1.heap.size Z (Z + 1) wx U M (cutoff U k) (cutoff M k) (cutoff U k))
              case atStart => exact ⟨0, by omega, rfl, by rw [cutoff_zero, cutoff_zero]; exact T0⟩
              case round =>
                clear T0 L B
                obtain ⟨k, hk, rfl, T⟩ := hrel
                by_cases hk3 : (k : Int) < 3
                · have c0 := T.c k (by omega)
                  have f0 := T.f k (by omega)
                  have hu : ∀ W : World, Led W w1.heap.size U M → Calls Tryd.prog 53 #[lp w1.heap.size, .int .i64 (k : Int)] W fun e w' => e = .returned (.int .i64 (U k)) ∧ w' = W := fun W h => by
                    have := used_ok h (k : Int) (by omega) hk3
                    rw [Int.toNat_natCast] at this; exact this
                  have hm : ∀ W : World, Led W w1.heap.size U M → Calls Tryd.prog 54 #[lp w1.heap.size, .int .i64 (k : Int)] W fun e w' => e = .returned (.int .i64 (M k)) ∧ w' = W := fun W h => by
                    have := most_ok h (k : Int) (by omega) hk3
                    rw [Int.toNat_natCast] at this; exact this
                  have T1 := T.note k (by omega) (U k)
                  rw [cutoff_next] at T1
                  have b0 := (fM k).1
                  have b1 := (fM k).2
                  go_wp2_with fail
                  refine (hu _ T.a).mono ?_
                  rintro e w2 ⟨rfl, h2⟩
                  subst w2
                  go_wp2_with fail
                  refine (hm _ T1.a).mono ?_
                  rintro e w2 ⟨rfl, h2⟩
                  subst w2
                  go_wp2_with fail
                  refine (limit_ok T1.b (k : Int) (M k) (by omega) hk3 b0 b1).mono ?_
                  rintro e w2 ⟨rfl, L2, g2⟩
                  rw [Int.toNat_natCast, cutoff_next] at L2
                  have T2 := T1.turnB L2 g2
                  have c2 : w2.cell? ⟨Z + 1, k, none⟩ = some (.int .i64 (U k)) := by
                    rw [T2.c k (by omega)]; simp [cutoff]
                  clear T T1 c0 f0 L2 g2
                  go_wp2_with fail
                  refine (charge_ok (T2.more _).b (fU.cutoff k) (fM.cutoff (k + 1)) _ 1 1 _ (asks_one w2 (k : Int) (U k) 92) (by decide) (fine_copy fU fM hle k (by omega))).mono ?_
                  rintro e w3 ⟨rfl, L3, g3⟩
                  rw [upon_copy] at L3
                  have T3 := (T2.more _).turnB L3 g3
                  clear T2 L3 g3 c2
                  go_wp2_with fail
                  go_roundg (gk - 1)
                  case measure => omega
                  case rel => exact ⟨k + 1, by omega, by go_num, T3⟩
                · obtain rfl : k = 3 := by omega
                  go_wp2_with fail
                  go_meet
                  case rel => exact T.likeB (fun i hi => cutoff_all U i hi) (fun i hi => cutoff_all M i hi) (fun i hi => cutoff_all U i hi)
          case rest =>
            clear T0 L B d
            have d := hd _ hcut.bel
            have hC := charge_any hcut.a fU fM ia il ic q (hAk _ hcut.bel) (by omega)
            go_wp2_with fail
            refine hC.mono ?_
            rintro e w2 (⟨hF, rfl, L2, g2⟩ | ⟨p, hp, hF, hn, x, rfl, hx, hA2, b2⟩)
            · as_aux_lemma =>
                have T2 := hcut.turnA L2 g2
                have fU1 := Fine.fit fU fM hF
                have hle1 := Fine.le hle hF
                have FI := lhide hF
                clear hcut L2 g2 hC d hF
                go_upto_block 6 with fail
                go_cut [12] (fun _ wd => Tri w w1.heap.size Z (Z + 1) wd (upon U q il) M (upon U q il) M U)
                case first =>
                  go_wp2_with fail
                  go_loopg [12] il (fun n s12 wx => ∃ k : Nat, k + n = il ∧ s12 = .int .i64 k ∧ Tri w w1.heap.size Z (Z + 1) wx (upon U q il) M (upon U q k) M U)
                  case atStart => exact ⟨0, by omega, rfl, T2⟩
                  case round =>
                    clear T2
                    obtain ⟨k, hk, rfl, T⟩ := hrel
                    have d := hd _ T.bel
                    by_cases hk3 : (k : Int) < (il : Int)
                    · rcases hAk _ T.bel with h0 | ⟨ib, io, rfl, hib, hqq⟩
                      · exfalso; omega
                      have hq1 : Asks wr (some ⟨ib, io + k * 2, none⟩) 1 (fun i => q (k + i)) := by
                        refine .inr ⟨ib, io + k * 2, rfl, hib, fun i hi => ?_⟩
                        obtain rfl : i = 0 := by omega
                        have := hqq k (by omega)
                        simpa using this
                      have hF1 : Fine (upon U q k) M (fun i => q (k + i)) 1 := by
                        intro i hi
                        obtain rfl : i = 0 := by omega
                        exact FI.out k (by omega)
                      have hC2 := charge_ok T.b (Fine.fit fU fM (fun i hi => FI.out i (by omega))) fM (some ⟨ib, io + k * 2, none⟩) 1 (ic - k) (fun i => q (k + i)) hq1 (by decide) hF1
                      clear hqq hq1 hF1 hAk hd
                      have hic : (k : Int) + 1 ≤ (ic : Int) := by omega
                      go_wp2_with fail
                      refine hC2.mono ?_
                      rintro e w3 ⟨rfl, L3, g3⟩
                      have T3 := T.turnB L3 g3
                      clear T L3 g3 hC2
                      go_wp2_with fail
                      go_roundg (gk - 1)
                      case measure => omega
                      case rel => exact ⟨k + 1, by omega, by go_num, T3⟩
                    · obtain rfl : k = il := by omega
                      go_wp2_with fail
                      go_meet
                      case rel => exact T
                case rest =>
                have T9 := hcut
                clear T2 hcut
                go_wp2_with fail
                obtain ⟨G, hG⟩ : ∃ G, gk = G := ⟨_, rfl⟩
                go_loopg [13] 3 (fun n s13 wx => ∃ k : Nat, k + n = 3 ∧ s13 = .int .i64 k ∧ Tri w w1.heap.size Z (Z + 1) wx (upon U q il) M (upon U q il) M U)
                case atStart => exact ⟨0, by omega, rfl, T9⟩
                case round =>
                  clear T9
                  obtain ⟨k, hk, rfl, T⟩ := hrel
                  by_cases hk3 : (k : Int) < 3
                  · have c0 := T.c k (by omega)
                    have hUa : ∀ (z : Nat) (W : World), (z = w1.heap.size ∨ z = Z) → W.heap = wr.heap → Calls Tryd.prog 53 #[lp z, .int .i64 (k : Int)] W fun e w' => e = .returned (.int .i64 ((upon U q il) k)) ∧ w' = W := fun z W hz h => by
                      rcases hz with rfl | rfl
                      · have := used_ok (T.a.keep (w' := W) (by rw [h])) (k : Int) (by omega) hk3
                        rw [Int.toNat_natCast] at this; exact this
                      · have := used_ok (T.b.keep (w' := W) (by rw [h])) (k : Int) (by omega) hk3
                        rw [Int.toNat_natCast] at this; exact this
                    have hMa : ∀ W : World, W.heap = wr.heap → Calls Tryd.prog 54 #[lp w1.heap.size, .int .i64 (k : Int)] W fun e w' => e = .returned (.int .i64 (M k)) ∧ w' = W := fun W h => by
                      have := most_ok (T.a.keep (w' := W) (by rw [h])) (k : Int) (by omega) hk3
                      rw [Int.toNat_natCast] at this; exact this
                    have n1 : decide ((upon U q il) k < 0) = false := decide_eq_false (by have := (fU1 k).1; omega)
                    have n2 : decide (M k < (upon U q il) k) = false := decide_eq_false (by have := hle1 k; omega)
                    generalize (upon U q il) k = u at *
                    generalize M k = m at *
                    go_wp2_with fail
                    go_quiet (first | (go_at_call 53; exact Calls.quiet_of_same (hUa _ _ (by first | exact .inl rfl | exact .inr rfl) rfl)) | (go_at_call 54; exact Calls.quiet_of_same (hMa _ rfl)))
                    have T' := T.stay (W' := wr.drewN nq) ⟨rfl, rfl, rfl, Nat.le_refl _, fun _ _ => rfl⟩
                    go_wp2_with fail
                    go_roundg (gk - 1)
                    case measure => omega
                    case rel => exact ⟨k + 1, by omega, by go_num, T'⟩
                  · go_wp2_with fail
                    go_roundg (G - 1)
                    case measure => omega
                    case rel => exact ⟨j + 1, _, by omega, by go_num, fU1, hle1, T.a, T.bel⟩
            · as_aux_lemma =>
                have T2 := hcut.stay b2
                have fU1 := fU
                have hle1 := hle
                clear hcut hA2 b2 hC d hF hn hp
                go_upto_block 6 with fail
                go_cut [12] (fun _ wd => Tri w w1.heap.size Z (Z + 1) wd U M U M U)
                case first =>
                  go_wp2_with fail
                  go_loopg [12] 0 (fun n s12 wx => s12 = .int .i64 0 ∧ Tri w w1.heap.size Z (Z + 1) wx U M U M U)
                  case atStart => exact ⟨rfl, T2⟩
                  case round =>
                    clear T2
                    obtain ⟨rfl, T⟩ := hrel
                    have d := hd _ T.bel
                    by_cases hk3 : (0 : Int) < (il : Int)
                    · go_wp2_with fail
                      go_meet
                      case rel => exact T
                    · go_wp2_with fail
                      go_meet
                      case rel => exact T
                case rest =>
                have T9 := hcut
                clear T2 hcut
                go_wp2_with fail
                obtain ⟨G, hG⟩ : ∃ G, gk = G := ⟨_, rfl⟩
                go_loopg [13] 3 (fun n s13 wx => ∃ k : Nat, k + n = 3 ∧ s13 = .int .i64 k ∧ Tri w w1.heap.size Z (Z + 1) wx U M U M U)
                case atStart => exact ⟨0, by omega, rfl, T9⟩
                case round =>
                  clear T9
                  obtain ⟨k, hk, rfl, T⟩ := hrel
                  by_cases hk3 : (k : Int) < 3
                  · have c0 := T.c k (by omega)
                    have hUa : ∀ (z : Nat) (W : World), (z = w1.heap.size ∨ z = Z) → W.heap = wr.heap → Calls Tryd.prog 53 #[lp z, .int .i64 (k : Int)] W fun e w' => e = .returned (.int .i64 (U k)) ∧ w' = W := fun z W hz h => by
                      rcases hz with rfl | rfl
                      · have := used_ok (T.a.keep (w' := W) (by rw [h])) (k : Int) (by omega) hk3
                        rw [Int.toNat_natCast] at this; exact this
                      · have := used_ok (T.b.keep (w' := W) (by rw [h])) (k : Int) (by omega) hk3
                        rw [Int.toNat_natCast] at this; exact this
                    have hMa : ∀ W : World, W.heap = wr.heap → Calls Tryd.prog 54 #[lp w1.heap.size, .int .i64 (k : Int)] W fun e w' => e = .returned (.int .i64 (M k)) ∧ w' = W := fun W h => by
                      have := most_ok (T.a.keep (w' := W) (by rw [h])) (k : Int) (by omega) hk3
                      rw [Int.toNat_natCast] at this; exact this
                    have n1 : decide (U k < 0) = false := decide_eq_false (by have := (fU1 k).1; omega)
                    have n2 : decide (M k < U k) = false := decide_eq_false (by have := hle1 k; omega)
                    generalize U k = u at *
                    generalize M k = m at *
                    go_wp2_with fail
                    go_quiet (first | (go_at_call 53; exact Calls.quiet_of_same (hUa _ _ (by first | exact .inl rfl | exact .inr rfl) rfl)) | (go_at_call 54; exact Calls.quiet_of_same (hMa _ rfl)))
                    have T' := T.stay (W' := wr.drewN nq) ⟨rfl, rfl, rfl, Nat.le_refl _, fun _ _ => rfl⟩
                    go_wp2_with fail
                    go_roundg (gk - 1)
                    case measure => omega
                    case rel => exact ⟨k + 1, by omega, by go_num, T'⟩
                  · go_wp2_with fail
                    go_roundg (G - 1)
                    case measure => omega
                    case rel => exact ⟨j + 1, _, by omega, by go_num, fU1, hle1, T.a, T.bel⟩
      · go_wp2_with fail
        go_loopg [14] 3 (fun n s14 wx => ∃ k : Nat, k + n = 3 ∧ s14 = .int .i64 k ∧ Led wx w1.heap.size U M ∧ Below w.heap.size w wx)
        case atStart => exact ⟨0, by omega, rfl, L, B⟩
        case round =>
          clear L B
          obtain ⟨k, hk, rfl, L, B⟩ := hrel
          by_cases hk3 : (k : Int) < 3
          · as_aux_lemma =>
              have hu : ∀ W : World, Led W w1.heap.size U M → Calls Tryd.prog 53 #[lp w1.heap.size, .int .i64 (k : Int)] W fun e w' => e = .returned (.int .i64 (U k)) ∧ w' = W := fun W h => by
                have := used_ok h (k : Int) (by omega) hk3
                rw [Int.toNat_natCast] at this; exact this
              have n1 := (fU k).1
              have n2 := (fU k).2
              go_wp2_with fail
              refine (hu _ L).mono ?_
              rintro e w2 ⟨rfl, h2⟩
              subst w2
              go_wp2_with fail
              refine (charge_ok (L.more _) fU fM _ 2 2 _ (asks_two wr (k : Int) (-U k) (k : Int) (U k) 92) (by decide) (fine_back fU hle k (by omega))).mono ?_
              rintro e w2 ⟨rfl, L2, g2⟩
              have L3 := L2.like (fun i _ => upon_back k i) (fun _ _ => rfl)
              have B3 := below_of_grown (B.alloc B.size _) g2 hA
              clear L L2 g2
              go_wp2_with fail
              refine (hu _ L3).mono ?_
              rintro e w3 ⟨rfl, h3⟩
              subst w3
              go_wp2_with fail
              go_roundg (gk - 1)
              case measure => omega
              case rel => exact ⟨k + 1, by omega, by go_num, L3, B3⟩
          · go_wp2_with fail
            go_ret
            exact ⟨rfl, B⟩
end Go.Proofs.YtfejiehkpikieaaDoor

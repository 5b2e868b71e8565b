/- slabbed of the statements' own: a fact of a small cache. -/
import Derived.Test.YthknommfnajeiaaDoorOwn3
namespace Go.Proofs.YthknommfnajeiaaDoor
open Go.RowKit Go.Shelf Go.Lib Go.Sort Go.Maps

def sU0 : Nat → Bool := fun f => decide (f < 4)
def sU1 : Nat → Bool := cut sU0 0 (0 * 2 ^ 2)
def sU2 : Nat → Bool := cut sU1 0 (1 * 2 ^ 0)
def sC0 : Int → Option Nat := fun _ => none
def sC1 : Int → Option Nat := putC sC0 ((0 * 2 ^ 2 : Nat) : Int) 1
def sC2 : Int → Option Nat := putC sC1 0 (val sC1 0 ||| 2 ^ low (val sC1 0))
def sC3 : Int → Option Nat := putC sC2 ((1 * 2 ^ 0 : Nat) : Int) 1
def sC4 : Int → Option Nat := putC sC3 (2 / (2 : Nat)) (drop (val sC3 (2 / (2 : Nat))) ((2 : Int) % (2 : Nat)).toNat)
def sT0 : Int → Option Nat := fun _ => none
def sT1 : Int → Option Nat := fun z => if z = ((0 * 2 ^ 2 : Nat) : Int) then some 0 else sT0 z
def sT2 : Int → Option Nat := fun z => if z = ((1 * 2 ^ 0 : Nat) : Int) then some 0 else sT1 z

theorem k0 : Ks sC0 [] := ⟨List.Pairwise.nil, fun x => by simp [sC0]⟩
theorem k1 : Ks sC1 [0] := ⟨by simp, fun x => by unfold sC1 putC sC0; by_cases e : x = 0 <;> simp [e]⟩
theorem k2 : Ks sC2 [0] := ⟨by simp, fun x => by
  unfold sC2
  by_cases e : x = 0
  · simp [e, putC]
  · have := k1.2 x; simp [e, putC] at this ⊢; exact this⟩
theorem k3 : Ks sC3 [0, 1] := ⟨by simp, fun x => by
  unfold sC3
  by_cases e : x = 1
  · simp [e, putC]
  · have := k2.2 x; simp [e, putC] at this ⊢; exact this⟩
theorem k4 : Ks sC4 [0, 1] := ⟨by simp, fun x => by
  unfold sC4
  by_cases e : x = 1
  · simp [e, putC]
  · have := k3.2 x; simp [e, putC] at this ⊢; exact this⟩

theorem best_of {U : Nat → Bool} {n : Nat} (hb : ∀ f, U f = true → f < n) (q k : Nat) (hm : (q * 2 ^ k, k) ∈ blocks U n) (hl : ∀ x ∈ blocks U n, k < x.2 ∨ (k = x.2 ∧ q * 2 ^ k ≤ x.1)) : Best U 0 (q * 2 ^ k) k := by
  refine ⟨(blocks_mem hb _ _).1 hm, Nat.zero_le _, fun j r hx _ => ?_⟩
  have := hl _ ((blocks_mem hb (r * 2 ^ j) j).2 ⟨r, rfl, hx⟩)
  exact this
theorem sb0 : Best sU0 0 (0 * 2 ^ 2) 2 := best_of (n := 4) (fun f h => by simpa [sU0] using h) 0 2 (by decide) (by decide)
theorem sb1 : Best sU1 0 (1 * 2 ^ 0) 0 := best_of (n := 4) (fun f h => by simp [sU1, cut, sU0] at h; exact h.1) 1 0 (by decide) (by decide)

set_option maxRecDepth 100000 in
set_option maxHeartbeats 4000000 in
theorem slabbed_ok (w : World) (hT : Tab w) : Calls Tryd.prog 42 #[] w fun e w' => e = .returned (.bool true) ∧ Below w.heap.size w w' := by
  have hA1 : ∀ c b g W, COwn w c b 2 g 4 W sC0 sU0 sT0 0 → Calls Tryd.prog 35 #[cp c] W fun e w' => e = .returned (.tuple #[.int .i64 0, .nilIface]) ∧ COwn w c b 2 g 4 w' sC1 sU1 sT1 1 := by
    intro c b g W h
    refine (h.alloc hT (by omega)).mono ?_
    rintro e w' ⟨ks, hks, hc⟩
    obtain rfl := hks.one k0
    rcases hc with ⟨f, hr, _⟩ | ⟨_, hno, _⟩ | ⟨_, k, q, hB, _, rfl, hO⟩
    · cases hr
    · obtain ⟨q', _, hx⟩ := sb0.1; exact absurd (hno _ _ hx) (by omega)
    · rw [(hB.one sb0).1] at hO ⊢
      exact ⟨rfl, hO⟩
  have hA2 : ∀ c b g W, COwn w c b 2 g 4 W sC1 sU1 sT1 1 → Calls Tryd.prog 35 #[cp c] W fun e w' => e = .returned (.tuple #[.int .i64 1, .nilIface]) ∧ COwn w c b 2 g 4 w' sC2 sU1 sT1 1 := by
    intro c b g W h
    refine (h.alloc hT (by omega)).mono ?_
    rintro e w' ⟨ks, hks, hc⟩
    obtain rfl := hks.one k1
    have hroom : room 2 sC1 [0] = some 0 := by decide +kernel
    rcases hc with ⟨f, hr, rfl, hO⟩ | ⟨hr, _⟩ | ⟨hr, _⟩
    · rw [hroom] at hr; cases hr
      have e1 : (0 : Int) * (2 : Nat) + (low (val sC1 0) : Nat) = 1 := by decide +kernel
      exact ⟨by rw [e1], hO⟩
    · rw [hroom] at hr; cases hr
    · rw [hroom] at hr; cases hr
  have hA3 : ∀ c b g W, COwn w c b 2 g 4 W sC2 sU1 sT1 1 → Calls Tryd.prog 35 #[cp c] W fun e w' => e = .returned (.tuple #[.int .i64 2, .nilIface]) ∧ COwn w c b 2 g 4 w' sC3 sU2 sT2 2 := by
    intro c b g W h
    refine (h.alloc hT (by omega)).mono ?_
    rintro e w' ⟨ks, hks, hc⟩
    obtain rfl := hks.one k2
    have hroom : room 2 sC2 [0] = none := by decide +kernel
    rcases hc with ⟨f, hr, _⟩ | ⟨_, hno, _⟩ | ⟨_, k, q, hB, _, rfl, hO⟩
    · rw [hroom] at hr; cases hr
    · obtain ⟨q', _, hx⟩ := sb1.1; exact absurd (hno _ _ hx) (by omega)
    · rw [(hB.one sb1).1] at hO ⊢
      exact ⟨rfl, hO⟩
  have hN : ∀ c b g W, COwn w c b 2 g 4 W sC3 sU2 sT2 2 → Calls Tryd.prog 41 #[cp c] W fun e w' => e = .returned (.int .i64 2) ∧ COwn w c b 2 g 4 w' sC3 sU2 sT2 2 := by
    intro c b g W h
    refine h.count.mono ?_
    rintro e w' ⟨rfl, hb⟩
    have e1 : num sC3 4 = 2 := by decide +kernel
    exact ⟨by rw [e1]; rfl, h.stay hb⟩
  have hG : ∀ c b g W, COwn w c b 2 g 4 W sC3 sU2 sT2 2 → Calls Tryd.prog 36 #[cp c, .int .i64 2] W fun e w' => e = .returned .nilIface ∧ COwn w c b 2 g 4 w' sC4 sU2 sT2 2 := by
    intro c b g W h
    refine (h.give 2 (wf_small (by omega) (by omega))).mono ?_
    have e1 : isT 2 sC3 2 = true := by decide +kernel
    rintro e w' (⟨hi, _⟩ | ⟨_, rfl, hO⟩)
    · rw [e1] at hi; cases hi
    · exact ⟨rfl, hO⟩
  have hR : ∀ c b g W, COwn w c b 2 g 4 W sC4 sU2 sT2 2 → Calls Tryd.prog 38 #[cp c] W fun e w' => e = .returned (.int .i64 1) ∧ COwn w c b 2 g 4 w' (reap sC4) (backU sC4 sU2 [0, 1]) (cutL sC4 sT2 [0, 1]) 2 := by
    intro c b g W h
    refine h.reaps.mono ?_
    rintro e w' ⟨ks, hks, rfl, hO⟩
    obtain rfl := hks.one k4
    have e1 : (([0, 1] : List Int).filter (vac sC4)).length = 1 := by decide +kernel
    exact ⟨by rw [e1]; rfl, hO⟩
  have hL : ∀ c b g W, COwn w c b 2 g 4 W (reap sC4) (backU sC4 sU2 [0, 1]) (cutL sC4 sT2 [0, 1]) 2 → Calls Tryd.prog 25 #[pp b] W fun e w' => e = .returned (.int .i64 3) ∧ Below w.heap.size w w' := by
    intro c b g W h
    refine h.left.mono ?_
    rintro e w' ⟨rfl, rfl⟩
    have e1 : cnt (backU sC4 sU2 [0, 1]) 0 4 = 3 := by decide +kernel
    exact ⟨by rw [e1]; rfl, h.at⟩
  go_enter Tryd.func42, Tryd.ntmps42
  go_wp2_with (first
    | (go_at_call 16; refine (pool_ok _ 4 (by omega) (by omega)).mono ?_; rintro e w1 ⟨b, rfl, A1, a1, f1, o1⟩)
    | (go_at_call 33; refine (cache_own (w0 := w) (per := 2) a1 ⟨f1.os, f1.tape, f1.output, f1.size, fun i hi => f1.block i hi (fun h => h)⟩ o1 (by omega) (by omega)).mono ?_; rintro e w2 ⟨c, rfl, g, P2⟩)
    | (go_at_call 35; refine (hA1 _ b g _ P2).mono ?_; rintro e w3 ⟨rfl, P3⟩)
    | (go_at_call 35; refine (hA2 _ b g _ P3).mono ?_; rintro e w4 ⟨rfl, P4⟩)
    | (go_at_call 35; refine (hA3 _ b g _ P4).mono ?_; rintro e w5 ⟨rfl, P5⟩)
    | (go_at_call 41; refine (hN _ b g _ P5).mono ?_; rintro e w6 ⟨rfl, P6⟩)
    | (go_at_call 36; refine (hG _ b g _ P6).mono ?_; rintro e w7 ⟨rfl, P7⟩)
    | (go_at_call 38; refine (hR _ b g _ P7).mono ?_; rintro e w8 ⟨rfl, P8⟩)
    | (go_at_call 25; refine (hL _ _ g _ P8).mono ?_; rintro e w9 ⟨rfl, P9⟩))
  go_ret
  exact ⟨rfl, P9⟩
end Go.Proofs.YthknommfnajeiaaDoor

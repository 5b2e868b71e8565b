/- Charge at whatever list of asks, and the statements' own 'charged', by its Go text. -/
import Derived.Test.YtfejiehkpikieaaDoorCharge
namespace Go.Proofs.YtfejiehkpikieaaDoor
open Go.RowKit

/-- What became of a Charge. -/
def Turned (w : World) (b : Nat) (U M : Nat → Int) (q : Nat → Want) (len : Nat) (e : Ending) (w' : World) : Prop :=
  (Fine U M q len ∧ e = .returned .nilIface ∧ Led w' b (upon U q len) M ∧ w.grownBy w' (some b)) ∨
  ∃ p, p < len ∧ Fine U M q p ∧ fault U M q p ≠ 0 ∧ ∃ x, e = .returned (atv x) ∧ w.heap.size ≤ x ∧ AtB w' x (fault U M q p) p ∧ Below w.heap.size w w'

theorem charge_any {w : World} {b : Nat} {U M : Nat → Int} (l : Led w b U M) (hU : Fit U) (hM : Fit M) (ad : Option Addr) (len cap : Nat) (q : Nat → Want) (hq : Asks w ad len q) (hl : len ≤ 1000) :
    Calls Tryd.prog 51 #[lp b, .slice ad len cap] w (Turned w b U M q len) := by
  by_cases h : 0 < len
  · exact charge_go l hU hM ad len cap q hq h hl
  · obtain rfl : len = 0 := by omega
    refine (charge_none w b ad cap).mono ?_
    rintro e w' ⟨rfl, rfl⟩
    exact .inl ⟨fun _ h => absurd h (Nat.not_lt_zero _), rfl, l, ⟨rfl, rfl, rfl, Nat.le_refl _, fun _ _ _ => rfl⟩⟩

theorem charge_ok {w : World} {b : Nat} {U M : Nat → Int} (l : Led w b U M) (hU : Fit U) (hM : Fit M) (ad : Option Addr) (len cap : Nat) (q : Nat → Want) (hq : Asks w ad len q) (hl : len ≤ 1000) (hF : Fine U M q len) :
    Calls Tryd.prog 51 #[lp b, .slice ad len cap] w fun e w' => e = .returned .nilIface ∧ Led w' b (upon U q len) M ∧ w.grownBy w' (some b) := by
  refine (charge_any l hU hM ad len cap q hq hl).mono ?_
  rintro e w' (⟨_, h⟩ | ⟨p, hp, _, hn, _⟩)
  · exact h
  · exact absurd (hF p hp) hn

theorem charge_no {w : World} {b : Nat} {U M : Nat → Int} (l : Led w b U M) (hU : Fit U) (hM : Fit M) (ad : Option Addr) (len cap : Nat) (q : Nat → Want) (hq : Asks w ad len q) (hl : len ≤ 1000) (p : Nat) (hp : p < len) (hF : Fine U M q p) (hn : fault U M q p ≠ 0) :
    Calls Tryd.prog 51 #[lp b, .slice ad len cap] w fun e w' => ∃ x, e = .returned (atv x) ∧ w.heap.size ≤ x ∧ AtB w' x (fault U M q p) p ∧ Below w.heap.size w w' := by
  refine (charge_any l hU hM ad len cap q hq hl).mono ?_
  rintro e w' (⟨h, _⟩ | ⟨p', hp', hF', hn', x, h⟩)
  · exact absurd (h p hp) hn
  · have : p' = p := by
      rcases Nat.lt_trichotomy p p' with h | h | h
      · exact absurd (hF' p h) hn
      · exact h.symm
      · exact absurd (hF p' h) hn'
    subst this
    exact ⟨x, h⟩

theorem asks_one (w : World) (k n : Int) (t : TypeId) : Asks (w.alloc (.cells #[.int .i64 k, .int .i64 n] t)) (some ⟨w.heap.size, 0, none⟩) 1 (fun _ => ⟨k, n⟩) := by
  refine .inr ⟨w.heap.size, 0, rfl, by simp, fun i hi => ?_⟩
  obtain rfl : i = 0 := by omega
  simp

theorem asks_two (w : World) (k n k' n' : Int) (t : TypeId) : Asks (w.alloc (.cells #[.int .i64 k, .int .i64 n, .int .i64 k', .int .i64 n'] t)) (some ⟨w.heap.size, 0, none⟩) 2 (fun i => if i = 0 then ⟨k, n⟩ else ⟨k', n'⟩) := by
  refine .inr ⟨w.heap.size, 0, rfl, by simp, fun i hi => ?_⟩
  match i, hi with
  | 0, _ => simp
  | 1, _ => simp

theorem fit_zero : Fit (fun _ => 0) := fun _ => ⟨Int.le_refl _, (by decide : (0 : Int) ≤ 1000000)⟩

theorem led_zero (w : World) (t : TypeId) : Led (w.alloc (.cells #[.int .i64 0, .int .i64 0, .int .i64 0, .int .i64 0, .int .i64 0, .int .i64 0] t)) w.heap.size (fun _ => 0) (fun _ => 0) := led_new w (fun _ => 0) (fun _ => 0) t

set_option maxHeartbeats 2000000 in
theorem charged_ok (w : World) (hg : w.cell? ⟨1, 0, none⟩ = some errT) :
    Calls Tryd.prog 55 #[] w fun e w' => e = .returned (.bool true) ∧ Below w.heap.size w w' := by
  have hgl : 1 < w.heap.size := World.block_lt_of_cell? w _ hg
  have L0 := led_zero w 87
  have B0 : Below w.heap.size w (w.alloc (.cells #[.int .i64 0, .int .i64 0, .int .i64 0, .int .i64 0, .int .i64 0, .int .i64 0] 87)) := (Below.refl _ _).alloc (Nat.le_refl _) _
  have fM : Fit (put (fun _ => 0) 1 5) := fit_zero.put 1 5 (by decide) (by decide)
  go_enter Tryd.func55, Tryd.ntmps55
  go_wp2_with fail
  refine (limit_ok L0 1 5 (by decide) (by decide) (by decide) (by decide)).mono ?_
  rintro e w1 ⟨rfl, L1, g1⟩
  have B1 := below_of_grown B0 g1 (Nat.le_refl _)
  go_wp2_with fail
  refine (charge_ok (L1.more _) fit_zero fM _ 1 1 _ (asks_one w1 1 4 92) (by decide) ?_).mono ?_
  · intro i hi
    obtain rfl : i = 0 := by omega
    decide
  rintro e w2 ⟨rfl, L2, g2⟩
  have B2 := below_of_grown (B1.alloc B1.size _) g2 (Nat.le_refl _)
  have L2' : Led w2 w.heap.size (put (fun _ => 0) 1 4) (put (fun _ => 0) 1 5) := L2
  go_wp2_with fail
  refine (charge_no (L2'.more _) (fit_zero.put 1 4 (by decide) (by decide)) fM _ 2 2 _ (asks_two w2 1 1 1 1 92) (by decide) 1 (by decide) ?_ ?_).mono ?_
  · intro i hi
    obtain rfl : i = 0 := by omega
    decide
  · decide
  rintro e w3 ⟨x, rfl, hx, hA, b3⟩
  have B3 : Below w.heap.size w w3 := (B2.alloc B2.size _).trans (b3.mono (by have := B2.size; simp; omega))
  have hA4 : AtIs w3 x 4 1 := AtB.is hA
  have L3 : Led w3 w.heap.size (put (fun _ => 0) 1 4) (put (fun _ => 0) 1 5) := (L2'.more _).keep (b3.block _ (by have := L2'.lt; simp; omega))
  go_wp2_with fail
  refine (tell_at x 4 1 _ hA4 (by rw [B3.cell (p := ⟨1, 0, none⟩) hgl]; exact hg)).mono ?_
  rintro e w4 ⟨rfl, b4⟩
  have L4 := L3.keep (b4.block _ L3.lt)
  have hu := used_ok L4 1 (by decide) (by decide)
  have e4 : put (fun _ => 0) 1 4 (1 : Int).toNat = 4 := by decide
  rw [e4] at hu
  go_wp2_with fail
  refine hu.mono ?_
  rintro e w5 ⟨rfl, rfl⟩
  go_wp2_with fail
  go_ret
  exact ⟨rfl, B3.trans (b4.mono B3.size)⟩
end Go.Proofs.YtfejiehkpikieaaDoor

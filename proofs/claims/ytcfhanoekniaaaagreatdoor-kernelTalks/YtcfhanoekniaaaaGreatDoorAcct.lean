/- How much there is, and may be: the document's words on a ledger as plain facts on numbers. -/
import Derived.WalkKit
import Derived.Test.YtcfhanoekniaaaaGreatDoorOpenIn
import Derived.WalkLawsBesides
import Derived.Outline
import Derived.BigQuiet
import Derived.Deep.QuietTactic
namespace Go.Proofs.YtcfhanoekniaaaaGreatDoor

/-- One kind's number turned. -/
def put (U : Nat → Int) (k : Nat) (v : Int) : Nat → Int := fun i => if i = k then v else U i

theorem put_same (U : Nat → Int) (k : Nat) (v : Int) : put U k v k = v := by simp [put]
theorem put_other (U : Nat → Int) (k i : Nat) (v : Int) (h : i ≠ k) : put U k v i = U i := by simp [put, h]

/-- Numbers that a ledger can have. -/
def Fit (U : Nat → Int) : Prop := ∀ k, 0 ≤ U k ∧ U k ≤ 1000000

theorem Fit.put {U : Nat → Int} (h : Fit U) (k : Nat) (v : Int) (h1 : 0 ≤ v) (h2 : v ≤ 1000000) : Fit (put U k v) := by
  intro i
  unfold Proofs.YtcfhanoekniaaaaGreatDoor.put
  split
  · exact ⟨h1, h2⟩
  · exact h i

/-- Why an ask of a kind may not be (0: it may be). -/
def why (U M : Nat → Int) (k n : Int) : Int :=
  if ¬ (0 ≤ k ∧ k < 3) then 1 else if ¬ (-1000000 ≤ n ∧ n ≤ 1000000) then 2 else
    if 0 < n ∧ M k.toNat < U k.toNat + n then 4 else if U k.toNat + n < 0 then 6 else 0

/-- What there is behind one ask. -/
def after (U : Nat → Int) (k n : Int) : Nat → Int := put U k.toNat (U k.toNat + n)

/-- What an ask that may be tells of its numbers. -/
theorem why_ok {U M : Nat → Int} {k n : Int} (h : why U M k n = 0) : (0 ≤ k ∧ k < 3) ∧ (-1000000 ≤ n ∧ n ≤ 1000000) ∧ (0 < n → U k.toNat + n ≤ M k.toNat) ∧ 0 ≤ U k.toNat + n := by
  unfold why at h
  by_cases h1 : 0 ≤ k ∧ k < 3
  · by_cases h2 : -1000000 ≤ n ∧ n ≤ 1000000
    · by_cases h3 : 0 < n ∧ M k.toNat < U k.toNat + n
      · simp [h1, h2, h3] at h
      · by_cases h4 : U k.toNat + n < 0
        · simp [h1, h2, h3, h4] at h
        · exact ⟨h1, h2, fun h5 => by omega, by omega⟩
    · simp [h1, h2] at h
  · simp [h1] at h

/-- The four ways in which one may not be. -/
theorem why_no {U M : Nat → Int} {k n : Int} (h : why U M k n ≠ 0) :
    (¬ (0 ≤ k ∧ k < 3) ∧ why U M k n = 1) ∨ ((0 ≤ k ∧ k < 3) ∧ ¬ (-1000000 ≤ n ∧ n ≤ 1000000) ∧ why U M k n = 2) ∨
    ((0 ≤ k ∧ k < 3) ∧ (-1000000 ≤ n ∧ n ≤ 1000000) ∧ 0 < n ∧ M k.toNat < U k.toNat + n ∧ why U M k n = 4) ∨
    ((0 ≤ k ∧ k < 3) ∧ (-1000000 ≤ n ∧ n ≤ 1000000) ∧ n ≤ 0 ∧ U k.toNat + n < 0 ∧ why U M k n = 6) ∨
    ((0 ≤ k ∧ k < 3) ∧ (-1000000 ≤ n ∧ n ≤ 1000000) ∧ 0 < n ∧ ¬ M k.toNat < U k.toNat + n ∧ U k.toNat + n < 0 ∧ why U M k n = 6) := by
  unfold why at h ⊢
  by_cases h1 : 0 ≤ k ∧ k < 3
  · by_cases h2 : -1000000 ≤ n ∧ n ≤ 1000000
    · by_cases h3 : 0 < n ∧ M k.toNat < U k.toNat + n
      · right; right; left; exact ⟨h1, h2, h3.1, h3.2, by simp [h1, h2, h3]⟩
      · by_cases h4 : U k.toNat + n < 0
        · by_cases h5 : 0 < n
          · right; right; right; right; exact ⟨h1, h2, h5, by omega, h4, by simp [h1, h2, h3, h4]⟩
          · right; right; right; left; exact ⟨h1, h2, by omega, h4, by simp [h1, h2, h3, h4]⟩
        · simp [h1, h2, h3, h4] at h
    · right; left; exact ⟨h1, h2, by simp [h1, h2]⟩
  · left; exact ⟨h1, by simp [h1]⟩

theorem Fit.after {U M : Nat → Int} (hU : Fit U) (hM : Fit M) {k n : Int} (h : why U M k n = 0) : Fit (after U k n) := by
  obtain ⟨_, _, h3, h4⟩ := why_ok h
  have a := hU k.toNat
  have b := hM k.toNat
  refine hU.put _ _ h4 ?_
  by_cases h5 : 0 < n
  · have := h3 h5; omega
  · omega

/-- Two numbers an ask. -/
structure Want where
  kind : Int
  n : Int

/-- What there is behind so many asks. -/
def upon (U : Nat → Int) (q : Nat → Want) : Nat → Nat → Int
  | 0 => U
  | j + 1 => after (upon U q j) (q j).kind (q j).n

/-- The j-th ask's fault. -/
def fault (U M : Nat → Int) (q : Nat → Want) (j : Nat) : Int := why (upon U q j) M (q j).kind (q j).n

/-- All asks ahead of the j-th may be. -/
def Fine (U M : Nat → Int) (q : Nat → Want) (j : Nat) : Prop := ∀ i, i < j → fault U M q i = 0

theorem Fine.fit {U M : Nat → Int} (hU : Fit U) (hM : Fit M) {q : Nat → Want} : ∀ {j}, Fine U M q j → Fit (upon U q j)
  | 0, _ => hU
  | j + 1, h => Fit.after (Fine.fit hU hM (j := j) (fun i hi => h i (by omega))) hM (h j (by omega))

theorem Fine.next {U M : Nat → Int} {q : Nat → Want} {j : Nat} (h : Fine U M q j) (h1 : fault U M q j = 0) : Fine U M q (j + 1) := by
  intro i hi
  by_cases e : i = j
  · rw [e]; exact h1
  · exact h i (by omega)

end Go.Proofs.YtcfhanoekniaaaaGreatDoor

namespace Go.Proofs.YtcfhanoekniaaaaGreatDoor
open Go.RowKit

abbrev lp (b : Nat) : Value := .pointer (some ⟨b, 0, none⟩)

/-- A ledger lies at block b: three numbers that there are, three that there may be. (The document's own is laid alike.) -/
structure Ldg (w : World) (b : Nat) (U M : Nat → Int) : Prop where
  has : ∀ k, k < 3 → w.cell? ⟨b, k, none⟩ = some (.int .i64 (U k))
  may : ∀ k, k < 3 → w.cell? ⟨b, 3 + k, none⟩ = some (.int .i64 (M k))
  live : ∀ k, k < 6 → w.frozen? ⟨b, k, none⟩ = false

theorem Ldg.keep {w w' : World} {b : Nat} {U M : Nat → Int} (h : Ldg w b U M) (hb : w'.heap[b]? = w.heap[b]?) : Ldg w' b U M :=
  ⟨fun k hk => by rw [World.cell?_of_block (w := w) (a := ⟨b, k, none⟩) hb]; exact h.has k hk,
   fun k hk => by rw [World.cell?_of_block (w := w) (a := ⟨b, 3 + k, none⟩) hb]; exact h.may k hk,
   fun k hk => by rw [World.frozen?_of_block (w := w) (a := ⟨b, k, none⟩) hb]; exact h.live k hk⟩

theorem Ldg.lt {w : World} {b : Nat} {U M : Nat → Int} (h : Ldg w b U M) : b < w.heap.size := World.block_lt_of_cell? w _ (h.has 0 (by omega))

theorem Ldg.has_put {w : World} {b : Nat} {U M : Nat → Int} (h : Ldg w b U M) (k : Nat) (hk : k < 3) (v : Int) :
    Ldg (w.setCell ⟨b, k, none⟩ (.int .i64 v)) b (put U k v) M := by
  refine ⟨fun i hi => ?_, fun i hi => ?_, fun i hi => by rw [World.frozen?_setCell]; exact h.live i hi⟩
  · by_cases e : i = k
    · subst e; rw [World.cell?_setCell_same _ _ _ (h.has i hi), put_same]
    · rw [World.cell?_setCell_other _ _ _ _ (by intro e'; simp only [Addr.mk.injEq, true_and, and_true] at e'; omega), h.has i hi, put_other _ _ _ _ e]
  · rw [World.cell?_setCell_other _ _ _ _ (by intro e'; simp only [Addr.mk.injEq, true_and, and_true] at e'; omega)]; exact h.may i hi

theorem Ldg.may_put {w : World} {b : Nat} {U M : Nat → Int} (h : Ldg w b U M) (k : Nat) (hk : k < 3) (v : Int) :
    Ldg (w.setCell ⟨b, 3 + k, none⟩ (.int .i64 v)) b U (put M k v) := by
  refine ⟨fun i hi => ?_, fun i hi => ?_, fun i hi => by rw [World.frozen?_setCell]; exact h.live i hi⟩
  · rw [World.cell?_setCell_other _ _ _ _ (by intro e'; simp only [Addr.mk.injEq, true_and, and_true] at e'; omega)]; exact h.has i hi
  · by_cases e : i = k
    · subst e; rw [World.cell?_setCell_same _ _ _ (h.may i hi), put_same]
    · rw [World.cell?_setCell_other _ _ _ _ (by intro e'; simp only [Addr.mk.injEq, true_and, and_true] at e'; omega), h.may i hi, put_other _ _ _ _ e]

/-- One block turned, the rest as it was, and perhaps more behind. -/
theorem lgrown_set (w : World) (b o : Nat) (v : Value) : w.grownBy (w.setCell ⟨b, o, none⟩ v) (some b) :=
  ⟨rfl, rfl, rfl, by simp [World.setCell], fun k _ h => Below.heap_setCell _ _ _ _ (fun e => h (by rw [e]))⟩

set_option maxHeartbeats 400000 in
theorem has_any (w : World) (b : Nat) (k : Int) :
    Calls Tryz.prog 148 #[lp b, .int .i64 k] w fun e w' => e = .returned (.bool (decide (0 ≤ k ∧ k < 3))) ∧ w' = w := by
  by_cases h1 : 0 ≤ k
  · by_cases h2 : k < 3
    · rw [decide_eq_true (show 0 ≤ k ∧ k < 3 from ⟨h1, h2⟩)]
      go_enter Tryz.func148, Tryz.ntmps148
      go_wp2
      go_ret
      exact ⟨rfl, rfl⟩
    · rw [decide_eq_false (show ¬ (0 ≤ k ∧ k < 3) by omega)]
      go_enter Tryz.func148, Tryz.ntmps148
      go_wp2
      go_ret
      exact ⟨rfl, rfl⟩
  · rw [decide_eq_false (show ¬ (0 ≤ k ∧ k < 3) by omega)]
    go_enter Tryz.func148, Tryz.ntmps148
    go_wp2
    go_ret
    exact ⟨rfl, rfl⟩

theorem has_yes (w : World) (b : Nat) (k : Int) (h : 0 ≤ k ∧ k < 3) : Calls Tryz.prog 148 #[lp b, .int .i64 k] w fun e w' => e = .returned (.bool true) ∧ w' = w := by
  have := has_any w b k; rw [decide_eq_true h] at this; exact this
theorem has_not (w : World) (b : Nat) (k : Int) (h : ¬ (0 ≤ k ∧ k < 3)) : Calls Tryz.prog 148 #[lp b, .int .i64 k] w fun e w' => e = .returned (.bool false) ∧ w' = w := by
  have := has_any w b k; rw [decide_eq_false h] at this; exact this

end Go.Proofs.YtcfhanoekniaaaaGreatDoor

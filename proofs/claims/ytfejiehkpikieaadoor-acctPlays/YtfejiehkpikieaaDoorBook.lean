/- How much there is, and may be: the document's words on a ledger as plain facts on numbers. -/
import Derived.WalkKit
namespace Go.Proofs.YtfejiehkpikieaaDoor

/-- One kind's number turned. -/
def put (U : Nat → Int) (k : Nat) (v : Int) : Nat → Int := fun i => if i = k then v else U i

theorem put_same (U : Nat → Int) (k : Nat) (v : Int) : put U k v k = v := by simp [put]
theorem put_other (U : Nat → Int) (k i : Nat) (v : Int) (h : i ≠ k) : put U k v i = U i := by simp [put, h]

/-- Numbers that a ledger can have. -/
def Fit (U : Nat → Int) : Prop := ∀ k, 0 ≤ U k ∧ U k ≤ 1000000

theorem Fit.put {U : Nat → Int} (h : Fit U) (k : Nat) (v : Int) (h1 : 0 ≤ v) (h2 : v ≤ 1000000) : Fit (put U k v) := by
  intro i
  unfold Proofs.YtfejiehkpikieaaDoor.put
  split
  · exact ⟨h1, h2⟩
  · exact h i

/-- Why an ask of a kind may not be (0: it may be). -/
def why (U M : Nat → Int) (k n : Int) : Int :=
  if ¬ (0 ≤ k ∧ k < 3) then 1 else if ¬ (-1000000 ≤ n ∧ n ≤ 1000000) then 2 else
    if 0 < n ∧ M k.toNat < U k.toNat + n then 4 else if U k.toNat + n < 0 then 6 else 0

/-- What there is behind one ask. -/
def after (U : Nat → Int) (k n : Int) : Nat → Int := put U k.toNat (U k.toNat + n)

/-- What an ask that may be tells of its numbers. -/
theorem why_ok {U M : Nat → Int} {k n : Int} (h : why U M k n = 0) : (0 ≤ k ∧ k < 3) ∧ (-1000000 ≤ n ∧ n ≤ 1000000) ∧ (0 < n → U k.toNat + n ≤ M k.toNat) ∧ 0 ≤ U k.toNat + n := by
  unfold why at h
  by_cases h1 : 0 ≤ k ∧ k < 3
  · by_cases h2 : -1000000 ≤ n ∧ n ≤ 1000000
    · by_cases h3 : 0 < n ∧ M k.toNat < U k.toNat + n
      · simp [h1, h2, h3] at h
      · by_cases h4 : U k.toNat + n < 0
        · simp [h1, h2, h3, h4] at h
        · exact ⟨h1, h2, fun h5 => by omega, by omega⟩
    · simp [h1, h2] at h
  · simp [h1] at h

/-- The four ways in which one may not be. -/
theorem why_no {U M : Nat → Int} {k n : Int} (h : why U M k n ≠ 0) :
    (¬ (0 ≤ k ∧ k < 3) ∧ why U M k n = 1) ∨ ((0 ≤ k ∧ k < 3) ∧ ¬ (-1000000 ≤ n ∧ n ≤ 1000000) ∧ why U M k n = 2) ∨
    ((0 ≤ k ∧ k < 3) ∧ (-1000000 ≤ n ∧ n ≤ 1000000) ∧ 0 < n ∧ M k.toNat < U k.toNat + n ∧ why U M k n = 4) ∨
    ((0 ≤ k ∧ k < 3) ∧ (-1000000 ≤ n ∧ n ≤ 1000000) ∧ n ≤ 0 ∧ U k.toNat + n < 0 ∧ why U M k n = 6) ∨
    ((0 ≤ k ∧ k < 3) ∧ (-1000000 ≤ n ∧ n ≤ 1000000) ∧ 0 < n ∧ ¬ M k.toNat < U k.toNat + n ∧ U k.toNat + n < 0 ∧ why U M k n = 6) := by
  unfold why at h ⊢
  by_cases h1 : 0 ≤ k ∧ k < 3
  · by_cases h2 : -1000000 ≤ n ∧ n ≤ 1000000
    · by_cases h3 : 0 < n ∧ M k.toNat < U k.toNat + n
      · right; right; left; exact ⟨h1, h2, h3.1, h3.2, by simp [h1, h2, h3]⟩
      · by_cases h4 : U k.toNat + n < 0
        · by_cases h5 : 0 < n
          · right; right; right; right; exact ⟨h1, h2, h5, by omega, h4, by simp [h1, h2, h3, h4]⟩
          · right; right; right; left; exact ⟨h1, h2, by omega, h4, by simp [h1, h2, h3, h4]⟩
        · simp [h1, h2, h3, h4] at h
    · right; left; exact ⟨h1, h2, by simp [h1, h2]⟩
  · left; exact ⟨h1, by simp [h1]⟩

theorem Fit.after {U M : Nat → Int} (hU : Fit U) (hM : Fit M) {k n : Int} (h : why U M k n = 0) : Fit (after U k n) := by
  obtain ⟨_, _, h3, h4⟩ := why_ok h
  have a := hU k.toNat
  have b := hM k.toNat
  refine hU.put _ _ h4 ?_
  by_cases h5 : 0 < n
  · have := h3 h5; omega
  · omega

/-- Two numbers an ask. -/
structure Want where
  kind : Int
  n : Int

/-- What there is behind so many asks. -/
def upon (U : Nat → Int) (q : Nat → Want) : Nat → Nat → Int
  | 0 => U
  | j + 1 => after (upon U q j) (q j).kind (q j).n

/-- The j-th ask's fault. -/
def fault (U M : Nat → Int) (q : Nat → Want) (j : Nat) : Int := why (upon U q j) M (q j).kind (q j).n

/-- All asks ahead of the j-th may be. -/
def Fine (U M : Nat → Int) (q : Nat → Want) (j : Nat) : Prop := ∀ i, i < j → fault U M q i = 0

theorem Fine.fit {U M : Nat → Int} (hU : Fit U) (hM : Fit M) {q : Nat → Want} : ∀ {j}, Fine U M q j → Fit (upon U q j)
  | 0, _ => hU
  | j + 1, h => Fit.after (Fine.fit hU hM (j := j) (fun i hi => h i (by omega))) hM (h j (by omega))

theorem Fine.next {U M : Nat → Int} {q : Nat → Want} {j : Nat} (h : Fine U M q j) (h1 : fault U M q j = 0) : Fine U M q (j + 1) := by
  intro i hi
  by_cases e : i = j
  · rw [e]; exact h1
  · exact h i (by omega)

/-- All may be, or there is a first that may not. -/
theorem fine_or (U M : Nat → Int) (q : Nat → Want) : ∀ len, Fine U M q len ∨ ∃ p, p < len ∧ Fine U M q p ∧ fault U M q p ≠ 0
  | 0 => .inl fun _ h => absurd h (Nat.not_lt_zero _)
  | len + 1 => by
    rcases fine_or U M q len with h | ⟨p, h1, h2, h3⟩
    · by_cases e : fault U M q len = 0
      · exact .inl (h.next e)
      · exact .inr ⟨len, by omega, h, e⟩
    · exact .inr ⟨p, by omega, h2, h3⟩

theorem upon_ext (U : Nat → Int) {q q' : Nat → Want} : ∀ j, (∀ i, i < j → q i = q' i) → upon U q j = upon U q' j
  | 0, _ => rfl
  | j + 1, h => by
    simp only [upon]
    rw [upon_ext U j (fun i hi => h i (by omega)), h j (by omega)]

/-- What may not be is one of four numbers. -/
theorem why_in (U M : Nat → Int) (k n : Int) : why U M k n = 0 ∨ why U M k n = 1 ∨ why U M k n = 2 ∨ why U M k n = 4 ∨ why U M k n = 6 := by
  by_cases h : why U M k n = 0
  · exact .inl h
  · rcases why_no h with h | h | h | h | h
    · exact .inr (.inl h.2)
    · exact .inr (.inr (.inl h.2.2))
    · exact .inr (.inr (.inr (.inl h.2.2.2.2)))
    · exact .inr (.inr (.inr (.inr h.2.2.2.2)))
    · exact .inr (.inr (.inr (.inr h.2.2.2.2.2)))
end Go.Proofs.YtfejiehkpikieaaDoor

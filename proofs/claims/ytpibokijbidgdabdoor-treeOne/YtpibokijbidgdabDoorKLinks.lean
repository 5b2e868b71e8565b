/- A file with many names in the root, plainly: names are numbers. -/
import Derived.Test.YtpibokijbidgdabDoorKLink
import Derived.Lib.ItoaLen
namespace Go.Proofs.YtpibokijbidgdabDoor
open Go.RowKit Go.Maps

/-- A number's name, and its path. -/
def dg (j : Nat) : Nm := if j < 10 then [UInt8.ofNat (48 + j)] else [UInt8.ofNat (48 + j / 10), UInt8.ofNat (48 + j % 10)]
theorem dg_dec (j : Nat) (h : j < 100) : Lib.decDigits j = dg j := by
  unfold dg
  by_cases e : j < 10
  · rw [if_pos e]; exact Lib.decDigits_one e
  · rw [if_neg e]; exact Lib.decDigits_two e h
def pth (j : Nat) : List UInt8 := 47 :: dg j
theorem pth_names : ∀ j, j < 20 → namesOf (pth j) = some [dg j] := by decide
theorem dg_inj : ∀ i, i < 20 → ∀ j, j < 20 → dg i = dg j → i = j := by decide
theorem dg_len : ∀ j, j < 20 → (dg j).length ≤ 2 := by decide
/-- The root's names. -/
def cJ (J : List Nat) : List (Nm × Int) := J.map fun j => (dg j, 1)
section
variable {J : List Nat} {j : Nat}
theorem cJ_all : AllOne (cJ J) := by
  induction J with
  | nil => intro s n e; cases e
  | cons a J ih => exact ih.cons (dg a)
theorem cJ_in : j ∈ J → (cJ J).lookup (dg j) = some 1 := by
  induction J with
  | nil => intro h; cases h
  | cons a J ih =>
    intro h
    show ((dg a, (1 : Int)) :: cJ J).lookup (dg j) = some 1
    rw [List.lookup_cons]
    split
    · rfl
    · rename_i e
      rcases List.mem_cons.1 h with rfl | h
      · simp at e
      · exact ih h
theorem cJ_out (hJ : ∀ i ∈ J, i < 20) (hj : j < 20) (h : j ∉ J) : (cJ J).lookup (dg j) = none := by
  induction J with
  | nil => rfl
  | cons a J ih =>
    show ((dg a, (1 : Int)) :: cJ J).lookup (dg j) = none
    rw [List.lookup_cons, show (dg j == dg a) = false by
      simp
      intro e
      exact h (List.mem_cons.2 (.inl (dg_inj j hj a (hJ a (List.mem_cons_self)) e)))]
    exact ih (fun i hi => hJ i (List.mem_cons_of_mem _ hi)) (fun hm => h (List.mem_cons_of_mem _ hm))
theorem cJ_del (hJ : ∀ i ∈ J, i < 20) (hj : j < 20) : (cJ J).filter (fun y => y.1 != dg j) = cJ (J.filter (fun i => i != j)) := by
  induction J with
  | nil => rfl
  | cons a J ih =>
    have ih := ih (fun i hi => hJ i (List.mem_cons_of_mem _ hi))
    show ((dg a, (1 : Int)) :: cJ J).filter _ = _
    by_cases e : a = j
    · subst e
      rw [List.filter_cons_of_neg (by simp), List.filter_cons_of_neg (by simp)]
      exact ih
    · have e2 : dg a ≠ dg j := fun h => e (dg_inj a (hJ a List.mem_cons_self) j hj h)
      rw [List.filter_cons_of_pos (by simp [e2]), List.filter_cons_of_pos (by simp [e]), ih]
      rfl
end
end Go.Proofs.YtpibokijbidgdabDoor

/- A tree plainly: nodes by their numbers, directories by their names. -/
import Derived.Test.YtpibokijbidgdabDoorPaths
namespace Go.Proofs.YtpibokijbidgdabDoor
open Go.RowKit

inductive Nd where
  | dir (C : List (Nm × Int))
  | file (b : List UInt8) (h : Nat)
abbrev Wd := Int → Option Nd

theorem wf_few {n : Int} (h0 : 0 ≤ n) (h1 : n < 1000000) : (Lit.int .i64 n).wf = true := by
  have a : IntKind.max .i64 = 9223372036854775807 := rfl
  have b : IntKind.min .i64 = -9223372036854775808 := rfl
  simp only [Lit.wf, a, b, Bool.and_eq_true, decide_eq_true_eq]; omega

/-- Where names lead from a node; and what is wrong. -/
def leadT (T : Wd) : Int → List Nm → Int × Int
  | a, [] => (a, 0)
  | a, s :: r => match T a with
    | some (.dir C) => match C.lookup s with
      | some n => leadT T n r
      | none => (0, 7)
    | _ => (0, 6)
theorem leadT_nil (T : Wd) (a : Int) : leadT T a [] = (a, 0) := rfl
theorem leadT_step {T : Wd} {a n : Int} {s : Nm} {C : List (Nm × Int)} (r : List Nm) (h : T a = some (.dir C)) (hl : C.lookup s = some n) : leadT T a (s :: r) = leadT T n r := by rw [leadT, h]; simp only [hl]
theorem leadT_miss {T : Wd} {a : Int} {s : Nm} {C : List (Nm × Int)} (r : List Nm) (h : T a = some (.dir C)) (hl : C.lookup s = none) : leadT T a (s :: r) = (0, 7) := by rw [leadT, h]; simp only [hl]
theorem leadT_file {T : Wd} {a : Int} {s : Nm} (r : List Nm) (h : ∀ C, T a ≠ some (.dir C)) : leadT T a (s :: r) = (0, 6) := by
  rw [leadT]
  split
  · rename_i C e; exact absurd e (h C)
  · rfl

/-- What holds of every tree. -/
structure TrOk (T : Wd) : Prop where
  root : ∃ C, T 0 = some (.dir C)
  key : ∀ k, (T k).isSome = true → 0 ≤ k ∧ k < 64
  nodup : ∀ k C, T k = some (.dir C) → (C.map (·.1)).Nodup
  child : ∀ k C s n, T k = some (.dir C) → C.lookup s = some n → (T n).isSome = true
  name : ∀ k C x, T k = some (.dir C) → x ∈ C → isName x.1 = true
  small : ∀ k b h, T k = some (.file b h) → b.length ≤ 256 ∧ h ≤ 1000

theorem TrOk.lead {T : Wd} (h : TrOk T) : ∀ (l : List Nm) (a : Int), (T a).isSome = true → (leadT T a l).2 = 0 → (T (leadT T a l).1).isSome = true
  | [], a, ha, _ => ha
  | s :: r, a, ha, he => by
    by_cases hd : ∃ C, T a = some (.dir C)
    · obtain ⟨C, hC⟩ := hd
      cases hl : C.lookup s with
      | none => rw [leadT_miss r hC hl] at he; simp at he
      | some n =>
        rw [leadT_step r hC hl] at he ⊢
        exact TrOk.lead h r n (h.child a C s n hC hl) he
    · rw [leadT_file r (fun C e => hd ⟨C, e⟩)] at he; simp at he
end Go.Proofs.YtpibokijbidgdabDoor

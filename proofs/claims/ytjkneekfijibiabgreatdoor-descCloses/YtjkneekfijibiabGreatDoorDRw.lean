/- What File comes to, plainly. -/
import Derived.Test.YtjkneekfijibiabGreatDoorQTab
namespace Go.Proofs.YtjkneekfijibiabGreatDoor
open Go.RowKit Go.Maps

/-- What File comes to: the number, what is told, what is open then, the table. -/
inductive FileO (D : DS) (N : Ns) (n s : Nat) (p : List UInt8) (pr : Int) (mk : Bool) : Int → Int → DS → Ns → Prop
  | arg (hp : ¬ (1 ≤ pr ∧ pr ≤ 3)) : FileO D N n s p pr mk 0 1 D N
  | full (hp : 1 ≤ pr ∧ pr ≤ 3) (hr : ¬ roomy N n) : FileO D N n s p pr mk 0 12 D N
  | no (hp : 1 ≤ pr ∧ pr ≤ 3) (hr : roomy N n) (hE : (findT D.T p).2 ≠ 0) (h7 : ¬ ((findT D.T p).2 = 7 ∧ mk = true)) : FileO D N n s p pr mk 0 (findT D.T p).2 D N
  | dir (hp : 1 ≤ pr ∧ pr ≤ 3) (hr : roomy N n) (hE : (findT D.T p).2 = 0) (hh : holdE D.T (findT D.T p).1 1 ≠ 0) : FileO D N n s p pr mk 0 (holdE D.T (findT D.T p).1 1) D N
  | opened (hp : 1 ≤ pr ∧ pr ≤ 3) (hr : roomy N n) (hE : (findT D.T p).2 = 0) (hh : holdE D.T (findT D.T p).1 1 = 0) : FileO D N n s p pr mk (leastN N) 0 (addD { D with T := holdN D.T (findT D.T p).1 1 } ⟨1, pr, (findT D.T p).1, 0, 0⟩) (addN D N)
  | unmade (hp : 1 ≤ pr ∧ pr ≤ 3) (hr : roomy N n) (hE : (findT D.T p).2 = 7) (hm : mk = true) (hM : makeE D.T s p ≠ 0) : FileO D N n s p pr mk 0 (makeE D.T s p) D N
  | made (hp : 1 ≤ pr ∧ pr ≤ 3) (hr : roomy N n) (hE : (findT D.T p).2 = 7) (hm : mk = true) (hM : makeE D.T s p = 0) (k : Int) (hk : IsFree D.T k) : FileO D N n s p pr mk (leastN N) 0 (addD { D with T := holdN (makeN D.T p false k) k 1 } ⟨1, pr, k, 0, 0⟩) (addN D N)
theorem FileO.one {D : DS} {N : Ns} {n s : Nat} {p : List UInt8} {pr : Int} {mk : Bool} {k c k' c' : Int} {E E' : DS} {L L' : Ns} (h : FileO D N n s p pr mk k c E L) (h' : FileO D N n s p pr mk k' c' E' L') : k = k' ∧ c = c' ∧ E = E' ∧ L = L' := by
  cases h with
  | made hp hr hE hm hM k hk =>
    cases h' with
    | made hp' hr' hE' hm' hM' k' hk' => obtain rfl := hk.same hk'; exact ⟨rfl, rfl, rfl, rfl⟩
    | no hp' hr' hE' h7 => exact absurd ⟨hE, hm⟩ h7
    | _ => first | contradiction | (exfalso; omega)
  | no hp hr hE h7 =>
    cases h' with
    | no => exact ⟨rfl, rfl, rfl, rfl⟩
    | made hp' hr' hE' hm' hM' k' hk' => exact absurd ⟨hE', hm'⟩ h7
    | unmade hp' hr' hE' hm' hM' => exact absurd ⟨hE', hm'⟩ h7
    | _ => first | contradiction | (exfalso; omega)
  | unmade hp hr hE hm hM =>
    cases h' with
    | unmade => exact ⟨rfl, rfl, rfl, rfl⟩
    | no hp' hr' hE' h7 => exact absurd ⟨hE, hm⟩ h7
    | _ => first | contradiction | (exfalso; omega)
  | _ => cases h' <;> first | exact ⟨rfl, rfl, rfl, rfl⟩ | contradiction | (exfalso; omega)
/-- Numbers that are 0 or more. -/
theorem used_least : ∀ {N : Ns}, (∀ x ∈ N, 0 ≤ x.1) → (leastN N < 0 ↔ N.length ≤ usedN N)
  | [], _ => by simp [leastN, usedN]
  | x :: N, h => by
    have ih := used_least (N := N) (fun y hy => h y (List.mem_cons_of_mem _ hy))
    have hx := h x List.mem_cons_self
    have hl := used_le N
    rw [leastN]
    unfold usedN at ih hl ⊢
    by_cases e : x.1 = 0
    · rw [if_pos e, List.filter_cons_of_neg (by simp; omega), List.length_cons]
      constructor
      · intro h9; omega
      · intro h9; omega
    · rw [if_neg e, List.filter_cons_of_pos (by simp; omega), List.length_cons, List.length_cons]
      rcases least_lt (N := N) with h9 | ⟨i, h9, _⟩
      · rw [h9] at ih
        rw [if_pos h9]
        constructor
        · intro _; have := ih.1 (by omega); omega
        · intro _; omega
      · rw [if_neg (by omega)]
        constructor
        · intro h8; omega
        · intro h8; have := ih.2 (by omega); omega
end Go.Proofs.YtjkneekfijibiabGreatDoor

namespace Go.Proofs.YtjkneekfijibiabGreatDoor
open Go.RowKit Go.Maps

/-- An ENTRY that is one. -/
structure EnOk (D : DS) (e : En) : Prop where
  kind : e.kind = 1 ∨ e.kind = 2 ∨ e.kind = 3
  file : e.kind = 1 → 1 ≤ e.prot ∧ e.prot ≤ 3 ∧ 0 ≤ e.node ∧ e.node < 1000 ∧ 0 ≤ e.pos ∧ e.pos ≤ 200
  frm : e.kind = 2 → e.prot = 1
  into : e.kind = 3 → e.prot = 2
  pipe : e.kind ≠ 1 → 0 < e.pipe ∧ e.pipe ≤ D.nx ∧ ∃ p, D.P e.pipe = some p ∧ p.1.length ≤ 16 ∧ 0 ≤ p.2.1 ∧ p.2.1 < 1000 ∧ 0 ≤ p.2.2 ∧ p.2.2 < 1000
/-- What Read comes to: the text, what is told, what is open then. -/
def readO (D : DS) (N : Ns) (x a : Int) : List UInt8 × Int × DS := if hasN N x = true then (match D.E (N.getD x.toNat (0, false)).1 with
  | none => ([], 7, D)
  | some e => if e.prot = 2 then ([], 13, D) else if e.kind = 1 then (readS D.T e.node e.pos a, readE D.T e.node e.pos a, { D with E := fun j => if j = (N.getD x.toNat (0, false)).1 then some { e with pos := e.pos + (readS D.T e.node e.pos a).length } else D.E j }) else match D.P e.pipe with
    | none => ([], 7, D)
    | some p => (p.1.take a.toNat, rdE p.2.2 p.1 a, { D with P := fun j => if j = e.pipe then some (p.1.drop a.toNat, p.2.1, p.2.2) else D.P j })) else ([], 7, D)
open Classical in
/-- What Write comes to: how many bytes, what is told, what is open then. -/
noncomputable def writeO (D : DS) (N : Ns) (x : Int) (s : List UInt8) (a : Int) : Int × Int × DS := if hasN N x = true then (match D.E (N.getD x.toNat (0, false)).1 with
  | none => (0, 7, D)
  | some e => if e.prot = 1 then (0, 13, D) else if e.kind = 1 then (if tooMuch s a e.pos then (0, 4, D) else if writeE D.T e.node e.pos s ≠ 0 then (0, writeE D.T e.node e.pos s, D) else ((s.length : Int), 0, { D with T := writeN D.T e.node e.pos s, E := fun j => if j = (N.getD x.toNat (0, false)).1 then some { e with pos := e.pos + s.length } else D.E j })) else match D.P e.pipe with
    | none => (0, 7, D)
    | some p => ((wrN p.2.1 p.1 s : Int), wrE p.2.1 p.1 s, { D with P := fun j => if j = e.pipe then some (wrB p.2.1 p.1 s, p.2.1, p.2.2) else D.P j })) else (0, 7, D)
section
variable {D : DS} {N : Ns} {i : Nat} {e : En} {a : Int} {s : List UInt8}
theorem readO_no {x : Int} (h : hasN N x = false) : readO D N x a = ([], 7, D) := if_neg (by rw [h]; simp)
theorem writeO_no {x : Int} (h : hasN N x = false) : writeO D N x s a = (0, 7, D) := if_neg (by rw [h]; simp)
theorem hasN_yes (hi : i < 8) (hiL : i < N.length) (h0 : 0 < N[i].1) : hasN N i = true := by
  unfold hasN
  rw [getD_in hiL]
  simp [h0]
  omega
variable (hi : i < 8) (hiL : i < N.length) (h0 : 0 < N[i].1) (he : D.E N[i].1 = some e)
include hi h0 he
theorem readO_false (hp : e.prot = 2) : readO D N i a = ([], 13, D) := by
  unfold readO; rw [if_pos (hasN_yes hi hiL h0), getD_in hiL, he]; simp only; rw [if_pos hp]
theorem readO_file (hk : e.kind = 1) (hp : e.prot ≠ 2) : readO D N i a = (readS D.T e.node e.pos a, readE D.T e.node e.pos a, { D with E := fun j => if j = N[i].1 then some { e with pos := e.pos + (readS D.T e.node e.pos a).length } else D.E j }) := by
  unfold readO; rw [if_pos (hasN_yes hi hiL h0), getD_in hiL, he]; simp only; rw [if_neg hp, if_pos hk]
theorem readO_end (hk : e.kind ≠ 1) (hp : e.prot ≠ 2) {p : Pi} (hP : D.P e.pipe = some p) : readO D N i a = (p.1.take a.toNat, rdE p.2.2 p.1 a, { D with P := fun j => if j = e.pipe then some (p.1.drop a.toNat, p.2.1, p.2.2) else D.P j }) := by
  unfold readO; rw [if_pos (hasN_yes hi hiL h0), getD_in hiL, he]; simp only; rw [if_neg hp, if_neg hk, hP]
theorem writeO_false (hp : e.prot = 1) : writeO D N i s a = (0, 13, D) := by
  unfold writeO; rw [if_pos (hasN_yes hi hiL h0), getD_in hiL, he]; simp only; rw [if_pos hp]
theorem writeO_limit (hk : e.kind = 1) (hp : e.prot ≠ 1) (hl : tooMuch s a e.pos) : writeO D N i s a = (0, 4, D) := by
  unfold writeO; rw [if_pos (hasN_yes hi hiL h0), getD_in hiL, he]; simp only; rw [if_neg hp, if_pos hk, if_pos hl]
theorem writeO_bad (hk : e.kind = 1) (hp : e.prot ≠ 1) (hl : ¬ tooMuch s a e.pos) (hE : writeE D.T e.node e.pos s ≠ 0) : writeO D N i s a = (0, writeE D.T e.node e.pos s, D) := by
  unfold writeO; rw [if_pos (hasN_yes hi hiL h0), getD_in hiL, he]; simp only; rw [if_neg hp, if_pos hk, if_neg hl, if_pos hE]
theorem writeO_file (hk : e.kind = 1) (hp : e.prot ≠ 1) (hl : ¬ tooMuch s a e.pos) (hE : writeE D.T e.node e.pos s = 0) : writeO D N i s a = ((s.length : Int), 0, { D with T := writeN D.T e.node e.pos s, E := fun j => if j = N[i].1 then some { e with pos := e.pos + s.length } else D.E j }) := by
  unfold writeO; rw [if_pos (hasN_yes hi hiL h0), getD_in hiL, he]; simp only; rw [if_neg hp, if_pos hk, if_neg hl, if_neg (fun h => h hE)]
theorem writeO_end (hk : e.kind ≠ 1) (hp : e.prot ≠ 1) {p : Pi} (hP : D.P e.pipe = some p) : writeO D N i s a = ((wrN p.2.1 p.1 s : Int), wrE p.2.1 p.1 s, { D with P := fun j => if j = e.pipe then some (wrB p.2.1 p.1 s, p.2.1, p.2.2) else D.P j }) := by
  unfold writeO; rw [if_pos (hasN_yes hi hiL h0), getD_in hiL, he]; simp only; rw [if_neg hp, if_neg hk, hP]
end
end Go.Proofs.YtjkneekfijibiabGreatDoor

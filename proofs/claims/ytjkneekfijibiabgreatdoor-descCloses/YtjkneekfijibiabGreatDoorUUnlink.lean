/- What Read and Write come to, plainly. -/
import Derived.Test.YtjkneekfijibiabGreatDoorDFileO
import Derived.Test.YtjkneekfijibiabGreatDoorUDrop
namespace Go.Proofs.YtjkneekfijibiabGreatDoor
open Go.RowKit Go.Maps

/-- An ENTRY that is one. -/
structure EnOk (D : DS) (e : En) : Prop where
  kind : e.kind = 1 ∨ e.kind = 2 ∨ e.kind = 3
  file : e.kind = 1 → 1 ≤ e.prot ∧ e.prot ≤ 3 ∧ 0 ≤ e.node ∧ e.node < 1000 ∧ 0 ≤ e.pos ∧ e.pos ≤ 200
  frm : e.kind = 2 → e.prot = 1
  into : e.kind = 3 → e.prot = 2
  pipe : e.kind ≠ 1 → 0 < e.pipe ∧ e.pipe ≤ D.nx ∧ ∃ p, D.P e.pipe = some p ∧ p.1.length ≤ 16 ∧ 0 ≤ p.2.1 ∧ p.2.1 < 1000 ∧ 0 ≤ p.2.2 ∧ p.2.2 < 1000
/-- What Read comes to: the text, what is told, what is open then. -/
def readO (D : DS) (N : Ns) (x a : Int) : List UInt8 × Int × DS := if hasN N x = true then (match D.E (N.getD x.toNat (0, false)).1 with
  | none => ([], 7, D)
  | some e => if e.prot = 2 then ([], 13, D) else if e.kind = 1 then (readS D.T e.node e.pos a, readE D.T e.node e.pos a, { D with E := fun j => if j = (N.getD x.toNat (0, false)).1 then some { e with pos := e.pos + (readS D.T e.node e.pos a).length } else D.E j }) else match D.P e.pipe with
    | none => ([], 7, D)
    | some p => (p.1.take a.toNat, rdE p.2.2 p.1 a, { D with P := fun j => if j = e.pipe then some (p.1.drop a.toNat, p.2.1, p.2.2) else D.P j })) else ([], 7, D)
open Classical in
/-- What Write comes to: how many bytes, what is told, what is open then. -/
noncomputable def writeO (D : DS) (N : Ns) (x : Int) (s : List UInt8) (a : Int) : Int × Int × DS := if hasN N x = true then (match D.E (N.getD x.toNat (0, false)).1 with
  | none => (0, 7, D)
  | some e => if e.prot = 1 then (0, 13, D) else if e.kind = 1 then (if tooMuch s a e.pos then (0, 4, D) else if writeE D.T e.node e.pos s ≠ 0 then (0, writeE D.T e.node e.pos s, D) else ((s.length : Int), 0, { D with T := writeN D.T e.node e.pos s, E := fun j => if j = (N.getD x.toNat (0, false)).1 then some { e with pos := e.pos + s.length } else D.E j })) else match D.P e.pipe with
    | none => (0, 7, D)
    | some p => ((wrN p.2.1 p.1 s : Int), wrE p.2.1 p.1 s, { D with P := fun j => if j = e.pipe then some (wrB p.2.1 p.1 s, p.2.1, p.2.2) else D.P j })) else (0, 7, D)
section
variable {D : DS} {N : Ns} {i : Nat} {e : En} {a : Int} {s : List UInt8}
theorem readO_no {x : Int} (h : hasN N x = false) : readO D N x a = ([], 7, D) := if_neg (by rw [h]; simp)
theorem writeO_no {x : Int} (h : hasN N x = false) : writeO D N x s a = (0, 7, D) := if_neg (by rw [h]; simp)
theorem hasN_yes (hi : i < 8) (hiL : i < N.length) (h0 : 0 < N[i].1) : hasN N i = true := by
  unfold hasN
  rw [getD_in hiL]
  simp [h0]
  omega
variable (hi : i < 8) (hiL : i < N.length) (h0 : 0 < N[i].1) (he : D.E N[i].1 = some e)
include hi h0 he
theorem readO_false (hp : e.prot = 2) : readO D N i a = ([], 13, D) := by
  unfold readO; rw [if_pos (hasN_yes hi hiL h0), getD_in hiL, he]; simp only; rw [if_pos hp]
theorem readO_file (hk : e.kind = 1) (hp : e.prot ≠ 2) : readO D N i a = (readS D.T e.node e.pos a, readE D.T e.node e.pos a, { D with E := fun j => if j = N[i].1 then some { e with pos := e.pos + (readS D.T e.node e.pos a).length } else D.E j }) := by
  unfold readO; rw [if_pos (hasN_yes hi hiL h0), getD_in hiL, he]; simp only; rw [if_neg hp, if_pos hk]
theorem readO_end (hk : e.kind ≠ 1) (hp : e.prot ≠ 2) {p : Pi} (hP : D.P e.pipe = some p) : readO D N i a = (p.1.take a.toNat, rdE p.2.2 p.1 a, { D with P := fun j => if j = e.pipe then some (p.1.drop a.toNat, p.2.1, p.2.2) else D.P j }) := by
  unfold readO; rw [if_pos (hasN_yes hi hiL h0), getD_in hiL, he]; simp only; rw [if_neg hp, if_neg hk, hP]
theorem writeO_false (hp : e.prot = 1) : writeO D N i s a = (0, 13, D) := by
  unfold writeO; rw [if_pos (hasN_yes hi hiL h0), getD_in hiL, he]; simp only; rw [if_pos hp]
theorem writeO_limit (hk : e.kind = 1) (hp : e.prot ≠ 1) (hl : tooMuch s a e.pos) : writeO D N i s a = (0, 4, D) := by
  unfold writeO; rw [if_pos (hasN_yes hi hiL h0), getD_in hiL, he]; simp only; rw [if_neg hp, if_pos hk, if_pos hl]
theorem writeO_bad (hk : e.kind = 1) (hp : e.prot ≠ 1) (hl : ¬ tooMuch s a e.pos) (hE : writeE D.T e.node e.pos s ≠ 0) : writeO D N i s a = (0, writeE D.T e.node e.pos s, D) := by
  unfold writeO; rw [if_pos (hasN_yes hi hiL h0), getD_in hiL, he]; simp only; rw [if_neg hp, if_pos hk, if_neg hl, if_pos hE]
theorem writeO_file (hk : e.kind = 1) (hp : e.prot ≠ 1) (hl : ¬ tooMuch s a e.pos) (hE : writeE D.T e.node e.pos s = 0) : writeO D N i s a = ((s.length : Int), 0, { D with T := writeN D.T e.node e.pos s, E := fun j => if j = N[i].1 then some { e with pos := e.pos + s.length } else D.E j }) := by
  unfold writeO; rw [if_pos (hasN_yes hi hiL h0), getD_in hiL, he]; simp only; rw [if_neg hp, if_pos hk, if_neg hl, if_neg (fun h => h hE)]
theorem writeO_end (hk : e.kind ≠ 1) (hp : e.prot ≠ 1) {p : Pi} (hP : D.P e.pipe = some p) : writeO D N i s a = ((wrN p.2.1 p.1 s : Int), wrE p.2.1 p.1 s, { D with P := fun j => if j = e.pipe then some (wrB p.2.1 p.1 s, p.2.1, p.2.2) else D.P j }) := by
  unfold writeO; rw [if_pos (hasN_yes hi hiL h0), getD_in hiL, he]; simp only; rw [if_neg hp, if_neg hk, hP]
end
end Go.Proofs.YtjkneekfijibiabGreatDoor

namespace Go.Proofs.YtjkneekfijibiabGreatDoor
open Go.RowKit Go.Maps

section
variable {w w' : World} {r gN s : Nat} {T : Wd} {Z : Int → Nat} {B G : Int → Nat} {V : Int → Value} {O : Nat → Prop}

theorem cnt_bound (hC : ∀ k C, T k = some (.dir C) → C.length ≤ 1000) (k : Int) : cntT T k ≤ 64000 := by
  have h1 : ∀ i : Int, cnt1 (T i) k ≤ 1000 := fun i => by
    cases e : T i with
    | none => exact Nat.zero_le _
    | some nd => cases nd with
      | file b x => exact Nat.zero_le _
      | dir C => exact Nat.le_trans (List.length_filter_le _ _) (hC i C e)
  have h2 : ∀ m : Nat, cntTo T k m ≤ m * 1000 := fun m => by
    induction m with
    | zero => exact Nat.le_refl _
    | succ m ih => rw [cntTo]; have := h1 m; omega
  exact h2 64

set_option maxRecDepth 100000 in
set_option maxHeartbeats 4000000 in
theorem PT.unlink_no (h : PT w r T O) (hT : TrLv T) (p : List UInt8) (hp : p.length < 100000) (m : Int) (hm : w.cell? ⟨2, 0, none⟩ = some (.int .i64 m)) (hE : unlinkE T p ≠ 0) :
    Calls Tryz.prog 22 #[wp r, tx p] w fun e w' => e = .returned (uer (unlinkE T p)) ∧ Below w.heap.size w w' := by
  obtain ⟨gN, s, B, G, V, h⟩ := h
  have hs1 := h.num.pos hT.toTrOk
  unfold unlinkE at hE ⊢
  by_cases hz : (placeT T p).2.2 = 0
  · rw [if_neg (fun e => e hz)] at hE ⊢
    cases hh : hasT T (placeT T p).1 (placeT T p).2.1 with
    | none =>
      have hTk := h.taken_none hT.toTrOk hs1 p hp m hm hz hh
      clear hE hh
      go_enter Tryz.func22, Tryz.ntmps22
      go_wp2_with (go_at_call 70; refine hTk.mono ?_; rintro e w1 ⟨rfl, b1⟩)
      go_ret
      refine ⟨rfl, ?_⟩
      repeat first | exact b1 | refine Below.alloc ?_ (by first | omega | (have := b1.size; omega) | (simp <;> omega)) _
    | some n =>
      rw [hh] at hE
      simp only at hE ⊢
      have hmz : manyT T n ≠ 0 := fun e => hE (by rw [if_neg (fun e' => e' e)])
      rw [if_pos hmz]
      have hTk := h.taken_some hT.toTrOk hs1 p hp m hm hz hh
      obtain ⟨D, hD⟩ : ∃ D, T n = some (.dir D) := by
        cases e : T n with
        | none => exact absurd (by unfold manyT; rw [e]) hmz
        | some nd => cases nd with
          | file b x => exact absurd (by unfold manyT; rw [e]) hmz
          | dir D => exact ⟨D, rfl⟩
      have hml : D.length ≠ 0 := by unfold manyT at hmz; rw [hD] at hmz; exact hmz
      have hkey := hT.key n (by rw [hD]; rfl)
      have hwf : (Lit.int .i64 n).wf = true := wf_few hkey.1 (by omega)
      have hgt : (0 : Int) < (D.length : Int) := by omega
      clear hE hh hmz
      generalize (placeT T p).1 = d at *
      generalize (placeT T p).2.1 = nm at *
      go_enter Tryz.func22, Tryz.ntmps22
      go_wp2_with (first
        | (go_at_call 70; refine hTk.mono ?_; rintro e w1 ⟨rfl, b1⟩
           have h1 := (h.below b1).below ((Below.refl _ w1).alloc (Nat.le_refl _) (.cells #[.map (some (G d)), tx nm] 132))
           have c0 := h1.c0
           have hlk := h1.look n hwf
           rw [hD] at hlk
           simp only [Option.isSome_some, if_true] at hlk
           obtain ⟨n0, _⟩ := h1.dcell hD
           have hSm := h1.dirs n D hD)
        | (refine wpList_slen rfl _ 111 rfl 3 Tryz.underlying111 (G n) _ _ rfl hSm ?_))
      go_ret
      refine ⟨rfl, ?_⟩
      repeat first | exact b1 | refine Below.alloc ?_ (by first | omega | (have := b1.size; omega) | (simp <;> omega)) _
  · rw [if_pos hz] at hE ⊢
    have hTk := h.taken_bad hT.toTrOk hs1 p hp m hm hz
    generalize (placeT T p).2.2 = z at *
    go_enter Tryz.func22, Tryz.ntmps22
    go_wp2_with (go_at_call 70; refine hTk.mono ?_; rintro e w1 ⟨rfl, b1⟩)
    go_ret
    refine ⟨rfl, ?_⟩
    repeat first | exact b1 | refine Below.alloc ?_ (by first | omega | (have := b1.size; omega) | (simp <;> omega)) _

theorem len_nomap (ty : TypeId) (w : World) : (Builtin.len_ #[111] ty #[.map none]).run Tryz.prog w = .ok (.int .i64 0) w := by kernel_rfl
end
end Go.Proofs.YtjkneekfijibiabGreatDoor

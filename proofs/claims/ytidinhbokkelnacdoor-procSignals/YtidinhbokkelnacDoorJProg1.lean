/- Package proc's processes as they lie in memory; at, State, Parent, Runs, by their Go text. -/
import Derived.Test.YtidinhbokkelnacDoorJBits
namespace Go.Proofs.YtidinhbokkelnacDoor
open Go.RowKit Go.Maps Go.Sort

/-- What is ignored, of one that runs. -/
def igQ (p : Pr) : Int → Bool := if p.state = 1 then p.ig else noSig
/-- A process as a value. -/
abbrev qv (p : Pr) : Value := .agg #[.int .i64 p.state, .int .i64 p.parent, .int .i64 p.code, mv p.wt, mv (igQ p)]
abbrev qv0 : Value := .agg #[.int .i64 0, .int .i64 0, .int .i64 0, .int .u64 0, .int .u64 0]
theorem zero_q (w : World) : (zeroValue 51).run Tryd.prog w = .ok qv0 w := by kernel_rfl
theorem qv_f (a b c d e : Int) (w : World) : (Instr.field 51 (.agg #[.int .i64 a, .int .i64 b, .int .i64 c, .int .u64 d, .int .u64 e]) 0).run Tryd.prog w = .ok (.int .i64 a) w ∧ (Instr.field 51 (.agg #[.int .i64 a, .int .i64 b, .int .i64 c, .int .u64 d, .int .u64 e]) 1).run Tryd.prog w = .ok (.int .i64 b) w ∧ (Instr.field 51 (.agg #[.int .i64 a, .int .i64 b, .int .i64 c, .int .u64 d, .int .u64 e]) 2).run Tryd.prog w = .ok (.int .i64 c) w ∧ (Instr.field 51 (.agg #[.int .i64 a, .int .i64 b, .int .i64 c, .int .u64 d, .int .u64 e]) 4).run Tryd.prog w = .ok (.int .u64 e) w := by
  refine ⟨?_, ?_, ?_, ?_⟩ <;> kernel_rfl
/-- What holds besides. -/
structure JD (P : Ps) : Prop where
  dis : ∀ n p, P n = some p → ∀ s, p.wt s = true → p.ig s = false
  dead : ∀ n p, P n = some p → p.state = 2 → p.wt = noSig
/-- In memory. -/
structure QM (w : World) (t g : Nat) (P : Ps) (c : Nat) : Prop where
  head : w.heap[t]? = some (.cells #[.map (some g)] 54)
  map : PMap w g c (fun n => (P n).map qv)
  key : ∀ n p, P n = some p → 1 ≤ n ∧ n ≤ 24
structure QJ (w : World) (t g : Nat) (P : Ps) (c : Nat) : Prop extends QM w t g P c where
  ok : JOk P
  dj : JD P
section
variable {w w' : World} {t g c : Nat} {P : Ps} {n m : Int} {p : Pr}
theorem QM.tlt (h : QM w t g P c) : t < w.heap.size := by
  rcases Nat.lt_or_ge t w.heap.size with z | z
  · exact z
  · have := h.head; rw [Array.getElem?_eq_none (by omega)] at this; cases this
theorem QM.gt (h : QM w t g P c) : g ≠ t := fun e => by
  obtain ⟨es, cl, hm⟩ := h.map.isMap
  rw [e, h.head] at hm; cases hm
theorem QM.keep (h : QM w t g P c) (h1 : w'.heap[t]? = w.heap[t]?) (h2 : w'.heap[g]? = w.heap[g]?) : QM w' t g P c := ⟨h1.trans h.head, h.map.keep h2, h.key⟩
theorem QM.below (h : QM w t g P c) (hb : Below w.heap.size w w') : QM w' t g P c := h.keep (hb.block t h.tlt) (hb.block g h.map.lt)
theorem QM.drew (h : QM w t g P c) (q : Nat) : QM (w.drewN q) t g P c := h.keep rfl rfl
theorem QM.c0 (h : QM w t g P c) : w.cell? ⟨t, 0, none⟩ = some (.map (some g)) := by rw [cell_of_row _ _ _ _ _ _ h.head]; rfl
theorem QM.num (h : QM w t g P c) : IsN P c := h.map.isN.congr (fun x => by cases P x <;> rfl)
theorem QM.few (h : QM w t g P c) : c ≤ 24 := by
  have := h.num.few (B := 24) (by omega) (fun x hx => by
    obtain ⟨p, hp⟩ := Option.isSome_iff_exists.1 hx
    have := h.key x p hp; omega)
  omega
theorem QM.look (h : QM w t g P c) (n : Int) (hn : (Lit.int .i64 n).wf = true) : (Instr.lookup 52 (.map (some g)) (.int .i64 n) false).run Tryd.prog w = .ok (match P n with | some p => qv p | none => qv0) w := by
  rw [h.map.look Tryd.underlying52 (zero_q _) n hn]
  cases P n <;> rfl
theorem QM.lookS (h : QM w t g P c) (hp : P n = some p) (hn : (Lit.int .i64 n).wf = true) : (Instr.lookup 52 (.map (some g)) (.int .i64 n) false).run Tryd.prog w = .ok (.agg #[.int .i64 p.state, .int .i64 p.parent, .int .i64 p.code, .int .u64 ((msk p.wt : Nat) : Int), .int .u64 ((msk (igQ p) : Nat) : Int)]) w := by
  rw [h.look n hn, hp]
theorem QM.lookN (h : QM w t g P c) (hp : P n = none) (hn : (Lit.int .i64 n).wf = true) : (Instr.lookup 52 (.map (some g)) (.int .i64 n) false).run Tryd.prog w = .ok (.agg #[.int .i64 0, .int .i64 0, .int .i64 0, .int .u64 0, .int .u64 0]) w := by
  rw [h.look n hn, hp]
/-- The five fields of one. -/
def qF (P : Ps) (n : Int) : Int × Int × Int × Nat × Nat := match P n with | some p => (p.state, p.parent, p.code, msk p.wt, msk (igQ p)) | none => (0, 0, 0, 0, 0)
theorem qF_st : (qF P n).1 = stJ P n := by unfold qF; cases h : P n with | none => rw [stJ_none h] | some p => rw [stJ_some h]
theorem qF_par : (qF P n).2.1 = parJ P n := by unfold qF; cases h : P n with | none => rw [parJ_none h] | some p => rw [parJ_some h]
theorem QM.lookF (h : QM w t g P c) (n : Int) (hn : (Lit.int .i64 n).wf = true) : (Instr.lookup 52 (.map (some g)) (.int .i64 n) false).run Tryd.prog w = .ok (.agg #[.int .i64 (qF P n).1, .int .i64 (qF P n).2.1, .int .i64 (qF P n).2.2.1, .int .u64 ((qF P n).2.2.2.1 : Nat), .int .u64 ((qF P n).2.2.2.2 : Nat)]) w := by
  rw [h.look n hn]
  unfold qF
  cases P n <;> rfl
set_option maxRecDepth 100000 in
set_option maxHeartbeats 1000000 in
theorem QM.at_ok (h : QM w t g P c) (n : Int) (hn : (Lit.int .i64 n).wf = true) : Calls Tryd.prog 25 #[wp t, .int .i64 n] w fun e w' => e = .returned (.agg #[.int .i64 (qF P n).1, .int .i64 (qF P n).2.1, .int .i64 (qF P n).2.2.1, .int .u64 ((qF P n).2.2.2.1 : Nat), .int .u64 ((qF P n).2.2.2.2 : Nat)]) ∧ Below w.heap.size w w' := by
  have hA : ∀ o, Below w.heap.size w (w.alloc o) := fun o => (Below.refl _ w).alloc (Nat.le_refl _) o
  have hl : ∀ o, (Instr.lookup 52 (.map (some g)) (.int .i64 n) false).run Tryd.prog (w.alloc o) = _ := fun o => (h.below (hA o)).lookF n hn
  have c0 : ∀ o, (w.alloc o).cell? ⟨t, 0, none⟩ = some (.map (some g)) := fun o => (h.below (hA o)).c0
  have hlt := h.tlt
  clear h
  generalize (qF P n).1 = x1 at *
  generalize (qF P n).2.1 = x2 at *
  generalize (qF P n).2.2.1 = x3 at *
  generalize (qF P n).2.2.2.1 = x4 at *
  generalize (qF P n).2.2.2.2 = x5 at *
  go_enter Tryd.func25, Tryd.ntmps25
  go_wp2_with fail
  refine bodyPost_ret (v := .agg #[.int .i64 x1, .int .i64 x2, .int .i64 x3, .int .u64 (x4 : Int), .int .u64 (x5 : Int)]) (by simp [results, Tryd.results25, go_sem]) rfl ⟨rfl, ?_⟩
  repeat first | exact Below.refl _ _ | refine Below.alloc ?_ (by first | omega | (simp <;> omega)) _ | refine Below.setCell ?_ (by first | omega | (simp <;> omega)) _
set_option maxRecDepth 100000 in
set_option maxHeartbeats 1000000 in
theorem QM.state (h : QM w t g P c) (n : Int) (hn : (Lit.int .i64 n).wf = true) : Calls Tryd.prog 21 #[wp t, .int .i64 n] w fun e w' => e = .returned (.int .i64 (stJ P n)) ∧ Below w.heap.size w w' := by
  have hC := h.at_ok n hn
  rw [← qF_st]
  have hf := fun W => (qv_f (qF P n).1 (qF P n).2.1 (qF P n).2.2.1 ((qF P n).2.2.2.1 : Nat) ((qF P n).2.2.2.2 : Nat) W).1
  generalize (qF P n).1 = x1 at *
  generalize (qF P n).2.1 = x2 at *
  generalize (qF P n).2.2.1 = x3 at *
  generalize (qF P n).2.2.2.1 = x4 at *
  generalize (qF P n).2.2.2.2 = x5 at *
  go_enter Tryd.func21, Tryd.ntmps21
  go_wp2_with (go_at_call 25; refine hC.mono ?_; rintro e w1 ⟨rfl, hb⟩)
  go_ret
  exact ⟨rfl, hb⟩
set_option maxRecDepth 100000 in
set_option maxHeartbeats 1000000 in
theorem QM.parent (h : QM w t g P c) (n : Int) (hn : (Lit.int .i64 n).wf = true) : Calls Tryd.prog 12 #[wp t, .int .i64 n] w fun e w' => e = .returned (.int .i64 (parJ P n)) ∧ Below w.heap.size w w' := by
  have hC := h.at_ok n hn
  rw [← qF_par]
  have hf := fun W => (qv_f (qF P n).1 (qF P n).2.1 (qF P n).2.2.1 ((qF P n).2.2.2.1 : Nat) ((qF P n).2.2.2.2 : Nat) W).2.1
  generalize (qF P n).1 = x1 at *
  generalize (qF P n).2.1 = x2 at *
  generalize (qF P n).2.2.1 = x3 at *
  generalize (qF P n).2.2.2.1 = x4 at *
  generalize (qF P n).2.2.2.2 = x5 at *
  go_enter Tryd.func12, Tryd.ntmps12
  go_wp2_with (go_at_call 25; refine hC.mono ?_; rintro e w1 ⟨rfl, hb⟩)
  go_ret
  exact ⟨rfl, hb⟩
set_option maxRecDepth 100000 in
set_option maxHeartbeats 1000000 in
theorem QM.runs (h : QM w t g P c) (n : Int) (hn : (Lit.int .i64 n).wf = true) : Calls Tryd.prog 11 #[wp t, .int .i64 n] w fun e w' => e = .returned (uev (if runsJ P n = true then 0 else 7)) ∧ Below w.heap.size w w' := by
  have hC := h.state n hn
  cases hru : runsJ P n with
  | true =>
    have hs : stJ P n = 1 := by unfold runsJ at hru; simpa using hru
    rw [hs] at hC
    rw [if_pos rfl, uev_zero]
    go_enter Tryd.func11, Tryd.ntmps11
    go_wp2_with (go_at_call 21; refine hC.mono ?_; rintro e w1 ⟨rfl, hb⟩)
    go_ret
    exact ⟨rfl, hb⟩
  | false =>
    have hs : stJ P n ≠ 1 := by unfold runsJ at hru; simpa using hru
    rw [if_neg (by simp), uev_ne (by omega)]
    have hs' : (stJ P n == 1) = false := by simpa using hs
    generalize stJ P n = s at *
    go_enter Tryd.func11, Tryd.ntmps11
    go_wp2_with (go_at_call 21; refine hC.mono ?_; rintro e w1 ⟨rfl, hb⟩)
    go_ret
    exact ⟨rfl, hb⟩
theorem QJ.keep (h : QJ w t g P c) (h1 : w'.heap[t]? = w.heap[t]?) (h2 : w'.heap[g]? = w.heap[g]?) : QJ w' t g P c := ⟨h.toQM.keep h1 h2, h.ok, h.dj⟩
theorem QJ.below (h : QJ w t g P c) (hb : Below w.heap.size w w') : QJ w' t g P c := ⟨h.toQM.below hb, h.ok, h.dj⟩
end
end Go.Proofs.YtidinhbokkelnacDoor

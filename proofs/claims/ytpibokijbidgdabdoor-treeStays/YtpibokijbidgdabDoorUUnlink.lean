/- Package tree: Unlink, by its Go text. -/
import Derived.Test.YtpibokijbidgdabDoorUDrop
namespace Go.Proofs.YtpibokijbidgdabDoor
open Go.RowKit Go.Maps

section
variable {w w' : World} {r gN s : Nat} {T : Wd} {Z : Int → Nat} {B G : Int → Nat} {V : Int → Value} {O : Nat → Prop}

theorem cnt_bound (hC : ∀ k C, T k = some (.dir C) → C.length ≤ 1000) (k : Int) : cntT T k ≤ 64000 := by
  have h1 : ∀ i : Int, cnt1 (T i) k ≤ 1000 := fun i => by
    cases e : T i with
    | none => exact Nat.zero_le _
    | some nd => cases nd with
      | file b x => exact Nat.zero_le _
      | dir C => exact Nat.le_trans (List.length_filter_le _ _) (hC i C e)
  have h2 : ∀ m : Nat, cntTo T k m ≤ m * 1000 := fun m => by
    induction m with
    | zero => exact Nat.le_refl _
    | succ m ih => rw [cntTo]; have := h1 m; omega
  exact h2 64

set_option maxRecDepth 100000 in
set_option maxHeartbeats 4000000 in
theorem PT.unlink_no (h : PT w r T O) (hT : TrLv T) (p : List UInt8) (hp : p.length < 100000) (m : Int) (hm : w.cell? ⟨1, 0, none⟩ = some (.int .i64 m)) (hE : unlinkE T p ≠ 0) :
    Calls Tryd.prog 45 #[wp r, tx p] w fun e w' => e = .returned (uer (unlinkE T p)) ∧ Below w.heap.size w w' := by
  obtain ⟨gN, s, B, G, V, h⟩ := h
  have hs1 := h.num.pos hT.toTrOk
  unfold unlinkE at hE ⊢
  by_cases hz : (placeT T p).2.2 = 0
  · rw [if_neg (fun e => e hz)] at hE ⊢
    cases hh : hasT T (placeT T p).1 (placeT T p).2.1 with
    | none =>
      have hTk := h.taken_none hT.toTrOk hs1 p hp m hm hz hh
      clear hE hh
      go_enter Tryd.func45, Tryd.ntmps45
      go_wp2_with (go_at_call 77; refine hTk.mono ?_; rintro e w1 ⟨rfl, b1⟩)
      go_ret
      refine ⟨rfl, ?_⟩
      repeat first | exact b1 | refine Below.alloc ?_ (by first | omega | (have := b1.size; omega) | (simp <;> omega)) _
    | some n =>
      rw [hh] at hE
      simp only at hE ⊢
      have hmz : manyT T n ≠ 0 := fun e => hE (by rw [if_neg (fun e' => e' e)])
      rw [if_pos hmz]
      have hTk := h.taken_some hT.toTrOk hs1 p hp m hm hz hh
      obtain ⟨D, hD⟩ : ∃ D, T n = some (.dir D) := by
        cases e : T n with
        | none => exact absurd (by unfold manyT; rw [e]) hmz
        | some nd => cases nd with
          | file b x => exact absurd (by unfold manyT; rw [e]) hmz
          | dir D => exact ⟨D, rfl⟩
      have hml : D.length ≠ 0 := by unfold manyT at hmz; rw [hD] at hmz; exact hmz
      have hkey := hT.key n (by rw [hD]; rfl)
      have hwf : (Lit.int .i64 n).wf = true := wf_few hkey.1 (by omega)
      have hgt : (0 : Int) < (D.length : Int) := by omega
      clear hE hh hmz
      generalize (placeT T p).1 = d at *
      generalize (placeT T p).2.1 = nm at *
      go_enter Tryd.func45, Tryd.ntmps45
      go_wp2_with (first
        | (go_at_call 77; refine hTk.mono ?_; rintro e w1 ⟨rfl, b1⟩
           have h1 := (h.below b1).below ((Below.refl _ w1).alloc (Nat.le_refl _) (.cells #[.map (some (G d)), tx nm] 144))
           have c0 := h1.c0
           have hlk := h1.look n hwf
           rw [hD] at hlk
           simp only [Option.isSome_some, if_true] at hlk
           obtain ⟨n0, _⟩ := h1.dcell hD
           have hSm := h1.dirs n D hD)
        | (refine wpList_slen rfl _ 81 rfl 3 Tryd.underlying81 (G n) _ _ rfl hSm ?_))
      go_ret
      refine ⟨rfl, ?_⟩
      repeat first | exact b1 | refine Below.alloc ?_ (by first | omega | (have := b1.size; omega) | (simp <;> omega)) _
  · rw [if_pos hz] at hE ⊢
    have hTk := h.taken_bad hT.toTrOk hs1 p hp m hm hz
    generalize (placeT T p).2.2 = z at *
    go_enter Tryd.func45, Tryd.ntmps45
    go_wp2_with (go_at_call 77; refine hTk.mono ?_; rintro e w1 ⟨rfl, b1⟩)
    go_ret
    refine ⟨rfl, ?_⟩
    repeat first | exact b1 | refine Below.alloc ?_ (by first | omega | (have := b1.size; omega) | (simp <;> omega)) _

theorem len_nomap (ty : TypeId) (w : World) : (Builtin.len_ #[81] ty #[.map none]).run Tryd.prog w = .ok (.int .i64 0) w := by kernel_rfl
end
end Go.Proofs.YtpibokijbidgdabDoor

/- The document's own Take and NewProcs, by their Go text. -/
import Derived.Test.YtidinhbokkelnabDoorJRef2
import Derived.Deep.LoopGhost
namespace Go.Proofs.YtidinhbokkelnabDoor
open Go.RowKit Go.Maps Go.Sort

section
variable {w w' : World} {t c : Nat} {P : Ps} {G : JG} {n m sig : Int} {p : Pr}
set_option maxRecDepth 100000 in
set_option maxHeartbeats 4000000 in
theorem RJ.take (h : RJ w t P G c) (n : Int) (hn : (Lit.int .i64 n).wf = true) : Calls Tryd.prog 63 #[wp t, .int .i64 n] w fun e w' => e = .returned (.int .i64 (takeS P n)) ∧ RJo w t (takeP P n) G w' := by
  have c0 := h.c0
  have hr := h.runs n hn
  cases hru : runsJ P n with
  | false =>
    rw [hru] at hr
    have hT : takeS P n = 0 := by unfold takeS; rw [if_pos hru]
    have hQ : takeP P n = P := by unfold takeP; rw [if_pos hT]
    rw [hT, hQ]
    go_enter Tryd.func63, Tryd.ntmps63
    go_wp2_with fail
    go_loopg [5] 1 (fun k s5 wr => k = 1 ∧ wr = w)
    case atStart => exact ⟨rfl, rfl⟩
    case round =>
      obtain ⟨_, rfl⟩ := hrel
      go_wp2_with (go_at_call 68; refine hr.mono ?_; rintro e w1 ⟨rfl, hw⟩; subst w1)
      go_ret
      exact ⟨rfl, .same h⟩
  | true =>
    rw [hru] at hr
    obtain ⟨p, hp, hst⟩ := runsJ_iff.1 hru
    clear hst
    have hl := h.lookS hp hn
    obtain ⟨-, -, hf3, -⟩ := prv_f p.parent p.state p.code (some (G.W n)) (some (G.I n)) w
    obtain ⟨s1, m1⟩ := h.wt n p hp
    have hw : wtJ P n = p.wt := by unfold wtJ; rw [hp]; rfl
    have hS : takeS P n = (sigs.find? p.wt).getD 0 := by unfold takeS; rw [if_neg (by rw [hru]; simp), hw]
    go_enter Tryd.func63, Tryd.ntmps63
    go_wp2_with fail
    go_loopg [5] 8 (fun k s5 wr => ∃ x : Nat, x + k = 9 ∧ 1 ≤ x ∧ s5 = .int .i64 (x : Int) ∧ wr = w ∧ ∀ y : Int, 1 ≤ y → y < x → p.wt y = false)
    case atStart => exact ⟨1, by omega, by omega, rfl, rfl, fun y h1 h2 => by omega⟩
    case round =>
      obtain ⟨x, hx, hx1, rfl, rfl, hy⟩ := hrel
      by_cases h8 : (x : Int) ≤ 8
      · have hl2 := sv_look m1 x (wf64 (by omega))
        cases hxx : p.wt x with
        | true =>
          rw [hxx, if_pos rfl] at hl2
          have hSx : takeS P n = x := by rw [hS, sigs_find (x := x) (by omega) hy hxx]; rfl
          obtain ⟨w2, hr2, h2, s2⟩ := h.wtDel hp (sig := x) (by omega)
          have hQ : takeP P n = onJ P n (fun p => { p with wt := putS p.wt x false }) := by unfold takeP; rw [hSx, if_neg (by omega)]
          have HS : Aside (takeS P n = x) := hSx
          have HQ : Aside (takeP P n = onJ P n (fun p => { p with wt := putS p.wt x false })) := hQ
          clear hS hSx hQ hy hw
          go_wp2_with (first
            | (go_at_call 68; refine hr.mono ?_; rintro e w1 ⟨rfl, hw⟩; subst w1)
            | (at_delete; refine wpList_delete_run rfl _ _ 112 3 rfl _ _ _ w2 rfl rfl hr2 ?_))
          go_ret
          rw [HS.out, HQ.out]
          exact ⟨rfl, .of h2 s2⟩
        | false =>
          rw [hxx, if_neg (by simp)] at hl2
          go_wp2_with (go_at_call 68; refine hr.mono ?_; rintro e w1 ⟨rfl, hw⟩; subst w1)
          go_roundg (gk - 1)
          case measure => omega
          case rel => exact ⟨x + 1, by omega, by omega, by go_num, rfl, fun y h1 h2 => by
            by_cases e : y = x
            · rw [e]; exact hxx
            · exact hy y h1 (by omega)⟩
      · have hSx : takeS P n = 0 := by rw [hS, sigs_none (fun y h1 h2 => hy y h1 (by omega))]; rfl
        have hQ : takeP P n = P := by unfold takeP; rw [if_pos hSx]
        have HS : Aside (takeS P n = 0) := hSx
        have HQ : Aside (takeP P n = P) := hQ
        clear hS hSx hQ hy hw
        go_wp2_with (go_at_call 68; refine hr.mono ?_; rintro e w1 ⟨rfl, hw⟩; subst w1)
        go_ret
        rw [HS.out, HQ.out]
        exact ⟨rfl, .same h⟩
end
end Go.Proofs.YtidinhbokkelnabDoor

/- The document's own Runs, Kill, Ignore, Take, by their Go text. -/
import Derived.Test.YtidinhbokkelnabDoorJMem
import Derived.Outline
import Derived.Sort.LoopGhostIn
import Derived.Deep.Light
namespace Go.Proofs.YtidinhbokkelnabDoor
open Go.RowKit Go.Maps Go.Sort

section
variable {w w' : World} {t c : Nat} {P : Ps} {G : JG} {n m : Int} {p : Pr}
theorem RJ.lookS (h : RJ w t P G c) (hp : P n = some p) (hn : (Lit.int .i64 n).wf = true) : (Instr.lookup 115 (.map (some G.g)) (.int .i64 n) false).run Tryd.prog w = .ok (.agg #[.int .i64 p.parent, .int .i64 p.state, .int .i64 p.code, .map (some (G.W n)), .map (some (G.I n))]) w := by
  rw [h.look n hn, hp]
theorem RJ.lookN (h : RJ w t P G c) (hp : P n = none) (hn : (Lit.int .i64 n).wf = true) : (Instr.lookup 115 (.map (some G.g)) (.int .i64 n) false).run Tryd.prog w = .ok (.agg #[.int .i64 0, .int .i64 0, .int .i64 0, .map none, .map none]) w := by
  rw [h.look n hn, hp]
set_option maxRecDepth 100000 in
set_option maxHeartbeats 1000000 in
theorem RJ.runs (h : RJ w t P G c) (n : Int) (hn : (Lit.int .i64 n).wf = true) : Calls Tryd.prog 68 #[wp t, .int .i64 n] w fun e w' => e = .returned (.bool (runsJ P n)) ∧ w' = w := by
  have c0 := h.c0
  cases hp : P n with
  | none =>
    have hl := h.lookN hp hn
    have hf := (prv_f 0 0 0 none none w).2.1
    have hr : runsJ P n = false := by unfold runsJ; rw [stJ_none hp]; rfl
    rw [hr]
    go_enter Tryd.func68, Tryd.ntmps68
    go_wp2_with fail
    go_ret
    exact ⟨rfl, rfl⟩
  | some p =>
    have hl := h.lookS hp hn
    have hf := (prv_f p.parent p.state p.code (some (G.W n)) (some (G.I n)) w).2.1
    have hr : runsJ P n = decide (p.state = 1) := by unfold runsJ; rw [stJ_some hp]
    rw [hr]
    generalize p.state = st at *
    go_enter Tryd.func68, Tryd.ntmps68
    go_wp2_with fail
    go_ret
    exact ⟨by first | rfl | simp, rfl⟩
theorem sv_look {g s : Nat} {f : Int → Bool} (m : PMap w g s (sv f)) (x : Int) (hx : (Lit.int .i64 x).wf = true) : (Instr.lookup 112 (.map (some g)) (.int .i64 x) false).run Tryd.prog w = .ok (.int .i64 (if f x = true then 1 else 0)) w := by
  rw [m.look Tryd.underlying112 (zero_num _) x hx]
  unfold sv
  by_cases e : f x = true <;> simp [e]
/-- All that Kill needs. -/
theorem RJ.kills (h : RJ w t P G c) (hp : P n = some p) {sig : Int} (hs : 1 ≤ sig ∧ sig ≤ 8) (hg : p.ig sig = false) : ∃ w', (Instr.mapUpdate 112 (.map (some (G.W n))) (.int .i64 sig) (.int .i64 1)).run Tryd.prog w = .ok () w' ∧ RJ w' t (killP P n sig) G c ∧ w.grownBy w' (some (G.W n)) := by
  obtain ⟨s, m⟩ := h.wt n p hp
  obtain ⟨s2, m2⟩ := h.ig n p hp
  have hi : (P n).isSome = true := by rw [hp]; rfl
  have h8 := sv_size m (h.ok.wt n p hp)
  obtain ⟨w', hrun, m', g⟩ := m.put Tryd.underlying112 (by unfold maxLen; omega) sig (wf64 (by omega)) (.int .i64 1)
  rw [sv_put] at m'
  have hf : (if p.ig sig = true then p else { p with wt := putS p.wt sig true }) = { p with wt := putS p.wt sig true } := by rw [hg]; rfl
  refine ⟨w', hrun, h.sig (f := fun p => if p.ig sig = true then p else { p with wt := putS p.wt sig true }) hp (by simp only [hf]) (.inl rfl) g ⟨_, by simp only [hf]; exact m'⟩ ⟨s2, by simp only [hf]; exact m2.keep (g.block _ m2.lt (fun e => h.wi hi hi (Option.some.inj e).symm))⟩ (h.ok.kill hs), g⟩
set_option maxRecDepth 100000 in
set_option maxHeartbeats 1000000 in
theorem inJ_ok (w : World) (x lo hi : Int) : Calls Tryd.prog 122 #[.int .i64 x, .int .i64 lo, .int .i64 hi] w fun e w' => e = .returned (.bool (decide (lo ≤ x) && decide (x ≤ hi))) ∧ w' = w := by
  by_cases h1 : lo ≤ x <;> by_cases h2 : x ≤ hi
  all_goals
    simp only [h1, h2, decide_true, decide_false, Bool.and_true, Bool.and_false]
    go_enter Tryd.func122, Tryd.ntmps122
    go_wp2_with fail
    go_ret
    exact ⟨rfl, rfl⟩
/-- What a call tells, and leaves. -/
def RJo (w : World) (t : Nat) (P' : Ps) (G : JG) (w' : World) : Prop := ∃ G' c', RJ w' t P' G' c' ∧ Stp w w' G.own G'.own
theorem RJo.of {P' : Ps} {G' : JG} {c' : Nat} (h : RJ w' t P' G' c') (hs : Stp w w' G.own G'.own) : RJo w t P' G w' := ⟨G', c', h, hs⟩
theorem RJo.same (h : RJ w t P G c) : RJo w t P G w := ⟨G, c, h, .refl _ _⟩
theorem killP_no (hs : p.ig n = true) {i : Int} (hp : P i = some p) : killP P i n = P := by
  funext j
  unfold killP onJ
  split
  · rename_i e; subst e; rw [hp]; simp [hs]
  · rfl
set_option maxRecDepth 100000 in
set_option maxHeartbeats 2000000 in
theorem RJ.kill (h : RJ w t P G c) (n sig : Int) (hn : (Lit.int .i64 n).wf = true) : Calls Tryd.prog 59 #[wp t, .int .i64 n, .int .i64 sig] w fun e w' => e = .returned (.int .i64 (killE P n sig)) ∧ RJo w t (if killE P n sig = 0 then killP P n sig else P) G w' := by
  have c0 := h.c0
  have hin := inJ_ok w sig 1 8
  have hr := h.runs n hn
  by_cases hs : 1 ≤ sig ∧ sig ≤ 8
  · rw [decide_eq_true hs.1, decide_eq_true hs.2] at hin
    simp only [Bool.and_self] at hin
    cases hru : runsJ P n with
    | false =>
      rw [hru] at hr
      have hE : killE P n sig = 7 := by unfold killE; rw [if_neg (by omega), hru]; rfl
      rw [hE, if_neg (by omega)]
      go_enter Tryd.func59, Tryd.ntmps59
      go_wp2_with (first
        | (go_at_call 122; refine hin.mono ?_; rintro e w1 ⟨rfl, hw⟩; subst w1)
        | (go_at_call 68; refine hr.mono ?_; rintro e w1 ⟨rfl, hw⟩; subst w1))
      go_ret
      exact ⟨rfl, .same h⟩
    | true =>
      rw [hru] at hr
      have hE : killE P n sig = 0 := by unfold killE; rw [if_neg (by omega), hru]; rfl
      rw [hE, if_pos rfl]
      obtain ⟨p, hp, hst⟩ := runsJ_iff.1 hru
      clear hst
      have hl := h.lookS hp hn
      obtain ⟨hf0, hf1, hf3, hf4⟩ := prv_f p.parent p.state p.code (some (G.W n)) (some (G.I n)) w
      obtain ⟨s2, m2⟩ := h.ig n p hp
      have hl2 := sv_look m2 sig (wf64 (by omega))
      cases hg : p.ig sig with
      | true =>
        rw [hg, if_pos rfl] at hl2
        rw [killP_no hg hp]
        go_enter Tryd.func59, Tryd.ntmps59
        go_wp2_with (first
          | (go_at_call 122; refine hin.mono ?_; rintro e w1 ⟨rfl, hw⟩; subst w1)
          | (go_at_call 68; refine hr.mono ?_; rintro e w1 ⟨rfl, hw⟩; subst w1))
        go_ret
        exact ⟨rfl, .same h⟩
      | false =>
        rw [hg, if_neg (by simp)] at hl2
        obtain ⟨w2, hrun, h2, g2⟩ := h.kills hp hs hg
        have hst2 : Stp w w2 G.own G.own := ⟨.grown g2 (by unfold JG.own; rw [h.kw n (by rw [hp]; rfl)]; rfl), fun _ z => .inl z⟩
        go_enter Tryd.func59, Tryd.ntmps59
        go_wp2_with (first
          | (go_at_call 122; refine hin.mono ?_; rintro e w1 ⟨rfl, hw⟩; subst w1)
          | (go_at_call 68; refine hr.mono ?_; rintro e w1 ⟨rfl, hw⟩; subst w1))
        go_ret
        exact ⟨rfl, .of h2 hst2⟩
  · have hE : killE P n sig = 2 := by unfold killE; rw [if_pos hs]
    rw [hE, if_neg (by omega)]
    have hb : (decide (1 ≤ sig) && decide (sig ≤ 8)) = false := by
      rw [Bool.and_eq_false_iff, decide_eq_false_iff_not, decide_eq_false_iff_not]; omega
    rw [hb] at hin
    go_enter Tryd.func59, Tryd.ntmps59
    go_wp2_with (go_at_call 122; refine hin.mono ?_; rintro e w1 ⟨rfl, hw⟩; subst w1)
    go_ret
    exact ⟨rfl, .same h⟩
end
end Go.Proofs.YtidinhbokkelnabDoor

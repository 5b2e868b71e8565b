/- The document's own Ignore and Take, by their Go text. -/
import Derived.Test.YtidinhbokkelnabDoorJRef1
namespace Go.Proofs.YtidinhbokkelnabDoor
open Go.RowKit Go.Maps Go.Sort

section
variable {w w' : World} {t c : Nat} {P : Ps} {G : JG} {n m sig : Int} {p : Pr}
theorem RJ.own_w (h : RJ w t P G c) (hp : P n = some p) : G.own (G.W n) := by unfold JG.own; rw [h.kw n (by rw [hp]; rfl)]; rfl
theorem RJ.own_i (h : RJ w t P G c) (hp : P n = some p) : G.own (G.I n) := by unfold JG.own; rw [h.ki n (by rw [hp]; rfl)]; rfl
theorem RJ.igDel (h : RJ w t P G c) (hp : P n = some p) (hs : 1 ≤ sig ∧ sig < 8) : ∃ w', (∀ ty, (Builtin.delete_ #[112, 3] ty #[.map (some (G.I n)), .int .i64 sig]).run Tryd.prog w = .ok (.tuple #[]) w') ∧ RJ w' t (onJ P n (fun p => { p with ig := putS p.ig sig false })) G c ∧ Stp w w' G.own G.own := by
  obtain ⟨s, m⟩ := h.wt n p hp
  obtain ⟨s2, m2⟩ := h.ig n p hp
  have hi : (P n).isSome = true := by rw [hp]; rfl
  obtain ⟨w', hrun, m', g⟩ := m2.del Tryd.underlying112 sig (wf64 (by omega)) 0
  rw [sv_del] at m'
  refine ⟨w', fun ty => by rw [← hrun]; rfl, h.sig (f := fun p => { p with ig := putS p.ig sig false }) hp rfl (.inr rfl) g ⟨s, m.keep (g.block _ m.lt (fun e => h.wi hi hi (Option.some.inj e)))⟩ ⟨_, m'⟩ (h.ok.on (fun _ => rfl) (fun _ => rfl) (fun q s hq e => h.ok.wt n q hq s e) (fun q s hq e => ?_)), ⟨.grown g (h.own_i hp), fun _ z => .inl z⟩⟩
  rcases putS_true e with ⟨_, e⟩ | e
  · cases e
  · exact h.ok.ig n q hq s e
theorem RJ.igPut (h : RJ w t P G c) (hp : P n = some p) (hs : 1 ≤ sig ∧ sig < 8) : ∃ w', (Instr.mapUpdate 112 (.map (some (G.I n))) (.int .i64 sig) (.int .i64 1)).run Tryd.prog w = .ok () w' ∧ RJ w' t (onJ P n (fun p => { p with ig := putS p.ig sig true })) G c ∧ Stp w w' G.own G.own := by
  obtain ⟨s, m⟩ := h.wt n p hp
  obtain ⟨s2, m2⟩ := h.ig n p hp
  have hi : (P n).isSome = true := by rw [hp]; rfl
  have h8 := sv_size m2 (fun i hi => by have := h.ok.ig n p hp i hi; omega)
  obtain ⟨w', hrun, m', g⟩ := m2.put Tryd.underlying112 (by unfold maxLen; omega) sig (wf64 (by omega)) (.int .i64 1)
  rw [sv_put] at m'
  refine ⟨w', hrun, h.sig (f := fun p => { p with ig := putS p.ig sig true }) hp rfl (.inr rfl) g ⟨s, m.keep (g.block _ m.lt (fun e => h.wi hi hi (Option.some.inj e)))⟩ ⟨_, m'⟩ (h.ok.on (fun _ => rfl) (fun _ => rfl) (fun q s hq e => h.ok.wt n q hq s e) (fun q s hq e => ?_)), ⟨.grown g (h.own_i hp), fun _ z => .inl z⟩⟩
  rcases putS_true e with ⟨rfl, _⟩ | e
  · exact hs
  · exact h.ok.ig n q hq s e
theorem RJ.wtDel (h : RJ w t P G c) (hp : P n = some p) (hs : 1 ≤ sig ∧ sig ≤ 8) : ∃ w', (∀ ty, (Builtin.delete_ #[112, 3] ty #[.map (some (G.W n)), .int .i64 sig]).run Tryd.prog w = .ok (.tuple #[]) w') ∧ RJ w' t (onJ P n (fun p => { p with wt := putS p.wt sig false })) G c ∧ Stp w w' G.own G.own := by
  obtain ⟨s, m⟩ := h.wt n p hp
  obtain ⟨s2, m2⟩ := h.ig n p hp
  have hi : (P n).isSome = true := by rw [hp]; rfl
  obtain ⟨w', hrun, m', g⟩ := m.del Tryd.underlying112 sig (wf64 (by omega)) 0
  rw [sv_del] at m'
  refine ⟨w', fun ty => by rw [← hrun]; rfl, h.sig (f := fun p => { p with wt := putS p.wt sig false }) hp rfl (.inl rfl) g ⟨_, m'⟩ ⟨s2, m2.keep (g.block _ m2.lt (fun e => h.wi hi hi (Option.some.inj e).symm))⟩ (h.ok.on (fun _ => rfl) (fun _ => rfl) (fun q s hq e => ?_) (fun q s hq e => h.ok.ig n q hq s e)), ⟨.grown g (h.own_w hp), fun _ z => .inl z⟩⟩
  rcases putS_true e with ⟨_, e⟩ | e
  · cases e
  · exact h.ok.wt n q hq s e
theorem putS_putS (f : Int → Bool) (s : Int) (a b : Bool) : putS (putS f s a) s b = putS f s b := by
  funext i; unfold putS; by_cases e : i = s <;> simp [e]
set_option maxRecDepth 100000 in
set_option maxHeartbeats 4000000 in
theorem RJ.ignore (h : RJ w t P G c) (n sig : Int) (on : Bool) (hn : (Lit.int .i64 n).wf = true) : Calls Tryd.prog 61 #[wp t, .int .i64 n, .int .i64 sig, .bool on] w fun e w' => e = .returned (.int .i64 (ignoreE P n sig)) ∧ RJo w t (if ignoreE P n sig = 0 then ignoreP P n sig on else P) G w' := by
  have c0 := h.c0
  have hin := inJ_ok w sig 1 8
  have hr := h.runs n hn
  by_cases hs : 1 ≤ sig ∧ sig ≤ 8
  · rw [decide_eq_true hs.1, decide_eq_true hs.2] at hin
    simp only [Bool.and_self] at hin
    cases hru : runsJ P n with
    | false =>
      rw [hru] at hr
      have hE : ignoreE P n sig = 7 := by unfold ignoreE; rw [if_neg (by omega), hru]; rfl
      rw [hE, if_neg (by omega)]
      go_enter Tryd.func61, Tryd.ntmps61
      go_wp2_with (first
        | (go_at_call 122; refine hin.mono ?_; rintro e w1 ⟨rfl, hw⟩; subst w1)
        | (go_at_call 68; refine hr.mono ?_; rintro e w1 ⟨rfl, hw⟩; subst w1))
      go_ret
      exact ⟨rfl, .same h⟩
    | true =>
      rw [hru] at hr
      by_cases h8 : sig = 8
      · have hE : ignoreE P n sig = 6 := by unfold ignoreE; rw [if_neg (by omega), hru, if_pos h8]; rfl
        rw [hE, if_neg (by omega)]
        subst h8
        go_enter Tryd.func61, Tryd.ntmps61
        go_wp2_with (first
          | (go_at_call 122; refine hin.mono ?_; rintro e w1 ⟨rfl, hw⟩; subst w1)
          | (go_at_call 68; refine hr.mono ?_; rintro e w1 ⟨rfl, hw⟩; subst w1))
        go_ret
        exact ⟨rfl, .same h⟩
      · have hE : ignoreE P n sig = 0 := by unfold ignoreE; rw [if_neg (by omega), hru, if_neg h8]; rfl
        rw [hE, if_pos rfl]
        obtain ⟨p, hp, hst⟩ := runsJ_iff.1 hru
        clear hst
        have hl := h.lookS hp hn
        obtain ⟨-, -, hf3, hf4⟩ := prv_f p.parent p.state p.code (some (G.W n)) (some (G.I n)) w
        obtain ⟨w2, hr2, h2, s2⟩ := h.igDel hp (sig := sig) (by omega)
        cases on with
        | false =>
          have hq : onJ P n (fun p => { p with ig := putS p.ig sig false }) = ignoreP P n sig false := rfl
          rw [hq] at h2
          go_enter Tryd.func61, Tryd.ntmps61
          go_wp2_with (first
            | (go_at_call 122; refine hin.mono ?_; rintro e w1 ⟨rfl, hw⟩; subst w1)
            | (go_at_call 68; refine hr.mono ?_; rintro e w1 ⟨rfl, hw⟩; subst w1)
            | (at_delete; refine wpList_delete_run rfl _ _ 112 3 rfl _ _ _ w2 rfl rfl hr2 ?_))
          go_ret
          exact ⟨rfl, .of h2 s2⟩
        | true =>
          have hp2 := onJ_at hp (fun p => { p with ig := putS p.ig sig false })
          have d0 := h2.c0
          have dl := h2.lookS hp2 hn
          obtain ⟨-, -, df3, df4⟩ := prv_f p.parent p.state p.code (some (G.W n)) (some (G.I n)) w2
          obtain ⟨w3, hr3, h3, s3⟩ := h2.igPut hp2 (sig := sig) (by omega)
          have hp3 := onJ_at hp2 (fun p => { p with ig := putS p.ig sig true })
          have e0 := h3.c0
          have el := h3.lookS hp3 hn
          obtain ⟨-, -, ef3, ef4⟩ := prv_f p.parent p.state p.code (some (G.W n)) (some (G.I n)) w3
          obtain ⟨w4, hr4, h4, s4⟩ := h3.wtDel hp3 (sig := sig) (by omega)
          have hq : onJ (onJ (onJ P n (fun p => { p with ig := putS p.ig sig false })) n (fun p => { p with ig := putS p.ig sig true })) n (fun p => { p with wt := putS p.wt sig false }) = ignoreP P n sig true := by
            rw [onJ_on, onJ_on]
            unfold ignoreP
            congr 1
            funext p
            simp only [putS_putS, if_true]
          rw [hq] at h4
          have ss := (s2.trans s3).trans s4
          clear h2 h3 hp2 hp3 hq hs s2 s3 s4
          simp only at dl el
          go_enter Tryd.func61, Tryd.ntmps61
          go_wp2_with (first
            | (go_at_call 122; refine hin.mono ?_; rintro e w1 ⟨rfl, hw⟩; subst w1)
            | (go_at_call 68; refine hr.mono ?_; rintro e w1 ⟨rfl, hw⟩; subst w1)
            | (at_delete; refine wpList_delete_run rfl _ _ 112 3 rfl _ _ _ w2 rfl rfl hr2 ?_)
            | (at_delete; refine wpList_delete_run rfl _ _ 112 3 rfl _ _ _ w4 rfl rfl hr4 ?_))
          go_ret
          exact ⟨rfl, .of h4 ss⟩
  · have hE : ignoreE P n sig = 2 := by unfold ignoreE; rw [if_pos hs]
    rw [hE, if_neg (by omega)]
    have hb : (decide (1 ≤ sig) && decide (sig ≤ 8)) = false := by
      rw [Bool.and_eq_false_iff, decide_eq_false_iff_not, decide_eq_false_iff_not]; omega
    rw [hb] at hin
    go_enter Tryd.func61, Tryd.ntmps61
    go_wp2_with (go_at_call 122; refine hin.mono ?_; rintro e w1 ⟨rfl, hw⟩; subst w1)
    go_ret
    exact ⟨rfl, .same h⟩
end
end Go.Proofs.YtidinhbokkelnabDoor

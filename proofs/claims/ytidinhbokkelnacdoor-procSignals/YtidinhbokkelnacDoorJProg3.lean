/- Package proc: New, Ignore, by their Go text. -/
import Derived.Test.YtidinhbokkelnacDoorJProg2
namespace Go.Proofs.YtidinhbokkelnacDoor
open Go.RowKit Go.Maps Go.Sort

section
variable {w w' V : World} {t g c : Nat} {P : Ps} {n m sig pid : Int} {p : Pr}
set_option maxRecDepth 100000 in
set_option maxHeartbeats 4000000 in
theorem newT_ok (w : World) : Calls Tryd.prog 6 #[] w fun e w' => ∃ t g, e = .returned (wp t) ∧ QJ w' t g firstJ 1 ∧ Below w.heap.size w w' ∧ w.heap.size ≤ t ∧ w.heap.size ≤ g := by
  have hmm := @run_makeMap Tryd.prog
  have p0 : PMap (w.alloc (.map #[] 0)) w.heap.size 0 (fun _ => none) := PMap.made w
  have hsz : (w.alloc (.map #[] 0)).heap.size = w.heap.size + 1 := by show (w.heap.push _).size = _; rw [Array.size_push]
  have bA : Below w.heap.size w (w.alloc (.map #[] 0)) := (Below.refl _ w).alloc (Nat.le_refl _) _
  obtain ⟨w1, hrun, q0, g1⟩ := p0.put Tryd.underlying52 (by unfold maxLen; omega) 1 (by decide) (.agg #[.int .i64 1, .int .i64 0, .int .i64 0, .int .u64 0, .int .u64 0])
  have b1 : Below w.heap.size w w1 := ⟨g1.os.trans bA.os, g1.tape.trans bA.tape, g1.output.trans bA.output, Nat.le_trans bA.size g1.size, fun i hi => (g1.block i (by rw [hsz]; omega) (fun e => by have := Option.some.inj e; omega)).trans (bA.block i hi)⟩
  have hz1 : w.heap.size + 1 ≤ w1.heap.size := by have := g1.size; rw [hsz] at this; exact this
  have hfin : QJ (w1.alloc (.cells #[.map (some w.heap.size)] 54)) w1.heap.size w.heap.size firstJ 1 := by
    refine ⟨⟨?_, ?_, JOk.first.key⟩, .first, .first⟩
    · show (w1.heap.push _)[w1.heap.size]? = _
      rw [Array.getElem?_push, if_pos rfl]
    · have e : (fun i => if i = (1 : Int) then some (Value.agg #[.int .i64 1, .int .i64 0, .int .i64 0, .int .u64 0, .int .u64 0]) else (fun _ => none) i) = fun n => (firstJ n).map qv := by
        funext i; unfold firstJ
        by_cases e : i = 1
        · simp only [e, if_true, Option.map_some]; rfl
        · simp [e]
      rw [← e]
      exact q0.keep (Below.heap_alloc _ _ _ q0.lt)
  have b2 : Below w.heap.size w (w1.alloc (.cells #[.map (some w.heap.size)] 54)) := b1.alloc b1.size _
  clear q0 p0 g1 bA b1 hsz
  go_enter Tryd.func6, Tryd.ntmps6
  go_wp2_with fail
  go_ret
  exact ⟨w1.heap.size, w.heap.size, rfl, hfin, b2, by omega, Nat.le_refl _⟩
theorem ign_on (hd : ∀ s, p.wt s = true → p.ig s = false) (sig : Int) : lessS p.wt (putS p.ig sig true) = putS p.wt sig false := by
  funext i
  unfold lessS putS
  by_cases e : i = sig
  · simp [e]
  · rw [if_neg e, if_neg e]
    cases hw : p.wt i with
    | false => rfl
    | true => rw [hd i hw]; rfl
theorem less_one (f : Int → Bool) (sig : Int) : lessS f (oneS sig) = putS f sig false := by
  funext i
  unfold lessS putS oneS
  by_cases e : i = sig <;> simp [e]
theorem ign_off (hd : ∀ s, p.wt s = true → p.ig s = false) (sig : Int) : lessS p.wt (putS p.ig sig false) = p.wt := by
  funext i
  unfold lessS putS
  cases hw : p.wt i with
  | false => rfl
  | true => rw [hd i hw]; simp
set_option maxRecDepth 100000 in
set_option maxHeartbeats 4000000 in
theorem QJ.ignore (h : QJ w t g P c) (n sig : Int) (on : Bool) (hn : (Lit.int .i64 n).wf = true) : Calls Tryd.prog 18 #[wp t, .int .i64 n, .int .i64 sig, .bool on] w fun e w' => e = .returned (uev (ignoreE P n sig)) ∧ QJo w t g (if ignoreE P n sig = 0 then ignoreP P n sig on else P) w' := by
  have hin := isSignal_ok w sig
  have hr := h.toQM.runs n hn
  by_cases hs : 1 ≤ sig ∧ sig ≤ 8
  · rw [decide_eq_true hs.1, decide_eq_true hs.2] at hin
    simp only [Bool.and_self] at hin
    cases hru : runsJ P n with
    | false =>
      rw [hru, if_neg (by simp), uev_ne (by omega)] at hr
      have hE : ignoreE P n sig = 7 := by unfold ignoreE; rw [if_neg (by omega), hru]; rfl
      rw [hE, if_neg (by omega), uev_ne (by omega)]
      go_enter Tryd.func18, Tryd.ntmps18
      go_wp2_with (first
        | (go_at_call 32; refine hin.mono ?_; rintro e w1 ⟨rfl, hw⟩; subst w1)
        | (go_at_call 11; refine hr.mono ?_; rintro e w1 ⟨rfl, hb⟩))
      go_ret
      exact ⟨rfl, .same h hb⟩
    | true =>
      rw [hru, if_pos rfl, uev_zero] at hr
      by_cases h8 : sig = 8
      · have hE : ignoreE P n sig = 6 := by unfold ignoreE; rw [if_neg (by omega), hru, if_pos h8]; rfl
        rw [hE, if_neg (by omega), uev_ne (by omega)]
        subst h8
        go_enter Tryd.func18, Tryd.ntmps18
        go_wp2_with (first
          | (go_at_call 32; refine hin.mono ?_; rintro e w1 ⟨rfl, hw⟩; subst w1)
          | (go_at_call 11; refine hr.mono ?_; rintro e w1 ⟨rfl, hb⟩))
        go_ret
        exact ⟨rfl, .same h hb⟩
      · have hE : ignoreE P n sig = 0 := by unfold ignoreE; rw [if_neg (by omega), hru, if_neg h8]; rfl
        rw [hE, if_pos rfl, uev_zero]
        have h8b : (sig == 8) = false := by simpa using h8
        obtain ⟨p, hp, hst⟩ := runsJ_iff.1 hru
        have hd := h.dj.dis n p hp
        have hig := igQ_run hst
        have hput := fun V hV => @QJ.turn w V t g c P n p h hV hp (fun p => { p with ig := putS p.ig sig on, wt := if on = true then putS p.wt sig false else p.wt }) (h.ok.ignore (by omega) on) (fun s z => by
          cases on with
          | true =>
            simp only [if_true] at z
            rcases putS_true z with ⟨_, z⟩ | z
            · cases z
            · have hne : s ≠ sig := fun e => by subst e; unfold putS at *; simp at *
              show putS p.ig sig true s = false
              unfold putS; rw [if_neg hne]; exact hd s z
          | false =>
            simp only [Bool.false_eq_true, if_false] at z
            show putS p.ig sig false s = false
            unfold putS; split
            · rfl
            · exact hd s z) (fun z => by simp only at z; omega)
        have hlo := fun V (hV : Below w.heap.size w V) => (h.toQM.below hV).lookS hp hn
        rw [hst, hig] at hlo
        have hco := fun V (hV : Below w.heap.size w V) => (h.toQM.below hV).c0
        have HLO : Aside _ := hlo
        have HCO : Aside _ := hco
        clear hlo hco
        cases on with
        | true =>
          have hwi := fun W => with_ok W p.ig sig hs
          have hwo := fun W => without_ok W p.wt (putS p.ig sig true)
          rw [ign_on hd] at hwo
          have hq : qv { p with ig := putS p.ig sig true, wt := if true = true then putS p.wt sig false else p.wt } = .agg #[.int .i64 1, .int .i64 p.parent, .int .i64 p.code, mv (putS p.wt sig false), mv (putS p.ig sig true)] := by
            unfold qv igQ; simp only [hst, if_true]
          have HPU : Aside (∀ V, Below w.heap.size w V → ∃ w5, (Instr.mapUpdate 52 (.map (some g)) (.int .i64 n) (.agg #[.int .i64 1, .int .i64 p.parent, .int .i64 p.code, mv (putS p.wt sig false), mv (putS p.ig sig true)])).run Tryd.prog V = .ok () w5 ∧ QJo w t g (ignoreP P n sig true) w5) := fun V hV => by
            obtain ⟨w5, a, b⟩ := hput V hV
            refine ⟨w5, ?_, b⟩
            rw [← hq]; exact a
          clear hput hq hig hd
          generalize ignoreP P n sig true = P2 at *
          generalize putS p.wt sig false = f2 at *
          generalize putS p.ig sig true = f1 at *
          go_enter Tryd.func18, Tryd.ntmps18
          go_upto_region 8 with (first
            | (go_at_call 32; refine hin.mono ?_; rintro e w1 ⟨rfl, hw⟩; subst w1)
            | (go_at_call 11; refine hr.mono ?_; rintro e w1 ⟨rfl, hb⟩))
          have c1 := HCO.out w1 hb
          have l1 := HLO.out w1 hb
          have hA : Below w.heap.size w (w1.alloc (.cells #[.int .i64 1, .int .i64 p.parent, .int .i64 p.code, .int .u64 ((msk f2 : Nat) : Int), .int .u64 ((msk f1 : Nat) : Int)] 51)) := hb.alloc hb.size _
          obtain ⟨w5, hrun, h5⟩ := HPU.out _ (belowJ_dr hA)
          have c2 := HCO.out _ hA
          clear hA hr hin
          go_upto_region 13 with (first
            | (go_at_call 33; refine (hwi _).mono ?_; rintro e w2 ⟨rfl, hw⟩; subst w2)
            | (go_at_call 34; refine (hwo _).mono ?_; rintro e w2 ⟨rfl, hw⟩; subst w2))
          go_region
          all_goals
            go_wp2_with fail
            go_ret
            exact ⟨rfl, h5⟩
        | false =>
          have hon := fun W => only_ok W sig hs
          have hwo1 := fun W => without_ok W p.ig (oneS sig)
          rw [less_one] at hwo1
          have hwo := fun W => without_ok W p.wt (putS p.ig sig false)
          rw [ign_off hd] at hwo
          have hq : qv { p with ig := putS p.ig sig false, wt := if false = true then putS p.wt sig false else p.wt } = .agg #[.int .i64 1, .int .i64 p.parent, .int .i64 p.code, mv p.wt, mv (putS p.ig sig false)] := by
            unfold qv igQ; simp only [hst, if_true, Bool.false_eq_true, if_false]
          have HPU : Aside (∀ V, Below w.heap.size w V → ∃ w5, (Instr.mapUpdate 52 (.map (some g)) (.int .i64 n) (.agg #[.int .i64 1, .int .i64 p.parent, .int .i64 p.code, mv (p.wt), mv (putS p.ig sig false)])).run Tryd.prog V = .ok () w5 ∧ QJo w t g (ignoreP P n sig false) w5) := fun V hV => by
            obtain ⟨w5, a, b⟩ := hput V hV
            refine ⟨w5, ?_, b⟩
            rw [← hq]; exact a
          clear hput hq hig hd
          generalize ignoreP P n sig false = P2 at *
          generalize putS p.ig sig false = f1 at *
          generalize oneS sig = o1 at *
          go_enter Tryd.func18, Tryd.ntmps18
          go_upto_region 8 with (first
            | (go_at_call 32; refine hin.mono ?_; rintro e w1 ⟨rfl, hw⟩; subst w1)
            | (go_at_call 11; refine hr.mono ?_; rintro e w1 ⟨rfl, hb⟩))
          have c1 := HCO.out w1 hb
          have l1 := HLO.out w1 hb
          have hA : Below w.heap.size w (w1.alloc (.cells #[.int .i64 1, .int .i64 p.parent, .int .i64 p.code, .int .u64 ((msk p.wt : Nat) : Int), .int .u64 ((msk f1 : Nat) : Int)] 51)) := hb.alloc hb.size _
          obtain ⟨w5, hrun, h5⟩ := HPU.out _ (belowJ_dr (belowJ_dr hA))
          have c2 := HCO.out _ (belowJ_dr hA)
          clear hA hr hin
          go_upto_region 11 with fail
          clear c1 l1
          go_region_with (first
            | (go_at_call 35; refine (hon _).mono ?_; rintro e w2 ⟨rfl, hw⟩; subst w2)
            | (go_at_call 34; refine (hwo1 _).mono ?_; rintro e w2 ⟨rfl, hw⟩; subst w2))
          all_goals
            clear hwo1 hon
            go_upto_region 13 with (go_at_call 34; refine (hwo _).mono ?_; rintro e w2 ⟨rfl, hw⟩; subst w2)
            go_region
            all_goals
              go_wp2_with fail
              go_ret
              exact ⟨rfl, h5⟩
  · have hE : ignoreE P n sig = 2 := by unfold ignoreE; rw [if_pos hs]
    rw [hE, if_neg (by omega), uev_ne (by omega)]
    have hb : (decide (1 ≤ sig) && decide (sig ≤ 8)) = false := by
      rw [Bool.and_eq_false_iff, decide_eq_false_iff_not, decide_eq_false_iff_not]; omega
    rw [hb] at hin
    go_enter Tryd.func18, Tryd.ntmps18
    go_wp2_with (go_at_call 32; refine hin.mono ?_; rintro e w1 ⟨rfl, hw⟩; subst w1)
    go_ret
    exact ⟨rfl, .same h (Below.refl _ _)⟩
end
end Go.Proofs.YtidinhbokkelnacDoor

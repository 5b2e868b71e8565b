/- Package proc: New, Kill, Ignore, Take, by their Go text. -/
import Derived.Test.YtcfhanoekniaaaaGreatDoorJProg1
import Derived.Deep.RegionWith
namespace Go.Proofs.YtcfhanoekniaaaaGreatDoor
open Go.RowKit Go.Maps Go.Sort

theorem onJ_set {P : Ps} {n : Int} {p : Pr} (hp : P n = some p) (f : Pr → Pr) : onJ P n f = setJ P n (f p) := by
  funext i
  unfold onJ setJ
  by_cases e : i = n
  · subst e; rw [if_pos rfl, if_pos rfl, hp]; rfl
  · rw [if_neg e, if_neg e]
theorem setJ_some {P : Ps} {n i : Int} {p q : Pr} (h : setJ P n p i = some q) : (i = n ∧ q = p) ∨ (i ≠ n ∧ P i = some q) := by
  unfold setJ at h
  split at h
  · rename_i e; exact .inl ⟨e, (Option.some.inj h).symm⟩
  · rename_i e; exact .inr ⟨e, h⟩
/-- All but the map stayed. -/
abbrev WtG (g : Nat) (w w' : World) : Prop := Wt (fun i => i = g) w w'
def QJo (w : World) (t g : Nat) (P' : Ps) (w' : World) : Prop := ∃ c', QJ w' t g P' c' ∧ WtG g w w'
section
variable {w w' V : World} {t g c : Nat} {P : Ps} {n m sig pid : Int} {p : Pr}
theorem WtG.ofB (hb : Below w.heap.size w w') : WtG g w w' := .below _ hb
theorem QJo.same (h : QJ w t g P c) (hb : Below w.heap.size w w') : QJo w t g P w' := ⟨c, h.below hb, .ofB hb⟩
theorem QM.put (h : QM w t g P c) (hV : Below w.heap.size w V) (n : Int) (hn : 1 ≤ n ∧ n ≤ 24) (p : Pr) : ∃ w5, (Instr.mapUpdate 220 (.map (some g)) (.int .i64 n) (qv p)).run Tryz.prog V = .ok () w5 ∧ QM w5 t g (setJ P n p) (if (P n).isSome then c else c + 1) ∧ WtG g w w5 := by
  have hc := h.few
  have hv := h.below hV
  obtain ⟨w5, hrun, m5, g5⟩ := hv.map.put Tryz.underlying220 (by unfold maxLen; omega) n (wf64 (by omega)) (qv p)
  have hM : (fun i => if i = n then some (qv p) else (P i).map qv) = fun i => (setJ P n p i).map qv := by
    funext i; unfold setJ; split <;> rfl
  rw [hM, Option.isSome_map] at m5
  refine ⟨w5, hrun, ⟨(g5.block t hv.tlt (fun z => h.gt (Option.some.inj z).symm)).trans hv.head, m5, fun i q e => ?_⟩, ?_⟩
  · rcases setJ_some e with ⟨rfl, _⟩ | ⟨_, e⟩
    · exact hn
    · exact h.key i q e
  · exact (Wt.below _ hV).trans (.grown g5 rfl)
theorem JD.first : JD firstJ := by
  have hh : ∀ n p, firstJ n = some p → p = ⟨0, 1, 0, noSig, noSig⟩ := fun n p e => by
    unfold firstJ at e
    split at e
    · exact (Option.some.inj e).symm
    · cases e
  refine ⟨fun n p e s z => ?_, fun n p e z => ?_⟩
  · have := hh n p e; subst this; cases z
  · have := hh n p e; subst this; rfl
theorem JD.set (h : JD P) (h1 : ∀ s, p.wt s = true → p.ig s = false) (h2 : p.state = 2 → p.wt = noSig) : JD (setJ P n p) := by
  refine ⟨fun i q e s z => ?_, fun i q e z => ?_⟩
  · rcases setJ_some e with ⟨_, rfl⟩ | ⟨_, e⟩
    · exact h1 s z
    · exact h.dis i q e s z
  · rcases setJ_some e with ⟨_, rfl⟩ | ⟨_, e⟩
    · exact h2 z
    · exact h.dead i q e z
/-- One that runs turns. -/
theorem QJ.turn (h : QJ w t g P c) (hV : Below w.heap.size w V) (hp : P n = some p) (f : Pr → Pr) (ok : JOk (onJ P n f)) (h1 : ∀ s, (f p).wt s = true → (f p).ig s = false) (h2 : (f p).state = 2 → (f p).wt = noSig) : ∃ w5, (Instr.mapUpdate 220 (.map (some g)) (.int .i64 n) (qv (f p))).run Tryz.prog V = .ok () w5 ∧ QJo w t g (onJ P n f) w5 := by
  obtain ⟨w5, hrun, m5, s5⟩ := h.toQM.put hV n (h.key n p hp) (f p)
  rw [onJ_set hp] at *
  exact ⟨w5, hrun, _, ⟨m5, ok, h.dj.set h1 h2⟩, s5⟩
set_option maxRecDepth 100000 in
set_option maxHeartbeats 1000000 in
theorem isSignal_ok (w : World) (x : Int) : Calls Tryz.prog 149 #[.int .i64 x] w fun e w' => e = .returned (.bool (decide (1 ≤ x) && decide (x ≤ 8))) ∧ w' = w := by
  by_cases h1 : 1 ≤ x <;> by_cases h2 : x ≤ 8
  all_goals
    simp only [h1, h2, decide_true, decide_false, Bool.and_true, Bool.and_false]
    go_enter Tryz.func149, Tryz.ntmps149
    go_wp2_with fail
    go_ret
    exact ⟨rfl, rfl⟩
theorem igQ_run (h : p.state = 1) : igQ p = p.ig := if_pos h
theorem kill_less (hd : ∀ s, p.wt s = true → p.ig s = false) (sig : Int) : lessS (putS p.wt sig true) p.ig = if p.ig sig = true then p.wt else putS p.wt sig true := by
  funext i
  unfold lessS putS
  by_cases e : i = sig
  · subst e
    cases hi : p.ig i with
    | true =>
      have : p.wt i = false := by cases hw : p.wt i with | false => rfl | true => have := hd i hw; rw [hi] at this; cases this
      simp [this]
    | false => simp
  · have hz : (p.wt i && !p.ig i) = p.wt i := by
      cases hw : p.wt i with
      | false => rfl
      | true => rw [hd i hw]; rfl
    rw [if_neg e, hz]
    split <;> simp [e]
set_option maxRecDepth 100000 in
set_option maxHeartbeats 4000000 in
theorem QJ.kill (h : QJ w t g P c) (n sig : Int) (hn : (Lit.int .i64 n).wf = true) : Calls Tryz.prog 61 #[wp t, .int .i64 n, .int .i64 sig] w fun e w' => e = .returned (uev (killE P n sig)) ∧ QJo w t g (if killE P n sig = 0 then killP P n sig else P) w' := by
  have hin := isSignal_ok w sig
  have hr := h.toQM.runs n hn
  by_cases hs : 1 ≤ sig ∧ sig ≤ 8
  · rw [decide_eq_true hs.1, decide_eq_true hs.2] at hin
    simp only [Bool.and_self] at hin
    cases hru : runsJ P n with
    | false =>
      rw [hru, if_neg (by simp), uev_ne (by omega)] at hr
      have hE : killE P n sig = 7 := by unfold killE; rw [if_neg (by omega), hru]; rfl
      rw [hE, if_neg (by omega), uev_ne (by omega)]
      go_enter Tryz.func61, Tryz.ntmps61
      go_wp2_with (first
        | (go_at_call 149; refine hin.mono ?_; rintro e w1 ⟨rfl, hw⟩; subst w1)
        | (go_at_call 137; refine hr.mono ?_; rintro e w1 ⟨rfl, hb⟩))
      go_ret
      exact ⟨rfl, .same h hb⟩
    | true =>
      rw [hru, if_pos rfl, uev_zero] at hr
      have hE : killE P n sig = 0 := by unfold killE; rw [if_neg (by omega), hru]; rfl
      rw [hE, if_pos rfl, uev_zero]
      obtain ⟨p, hp, hst⟩ := runsJ_iff.1 hru
      have hd := h.dj.dis n p hp
      have hig := igQ_run hst
      have hkl := kill_less hd sig
      have hwi := fun W => with_ok W p.wt sig hs
      have hwo := fun W => without_ok W (putS p.wt sig true) p.ig
      rw [hkl] at hwo
      have hput := fun V hV => @QJ.turn w V t g c P n p h hV hp (fun p => if p.ig sig = true then p else { p with wt := putS p.wt sig true }) (h.ok.kill hs) (fun s z => by
        by_cases hi : p.ig sig = true
        · simp only [if_pos hi] at z ⊢; exact hd s z
        · simp only [if_neg hi] at z ⊢
          rcases putS_true z with ⟨rfl, _⟩ | z
          · simpa using hi
          · exact hd s z) (fun z => by
        by_cases hi : p.ig sig = true
        · simp only [if_pos hi] at z; omega
        · simp only [if_neg hi] at z; omega)
      have hq : qv (if p.ig sig = true then p else { p with wt := putS p.wt sig true }) = .agg #[.int .i64 1, .int .i64 p.parent, .int .i64 p.code, mv (if p.ig sig = true then p.wt else putS p.wt sig true), mv p.ig] := by
        by_cases hi : p.ig sig = true
        · rw [if_pos hi, if_pos hi]; unfold qv; rw [hig, hst]
        · rw [if_neg hi, if_neg hi]; unfold qv igQ; simp only [hst, if_true]
      simp only [hq] at hput
      have HPU : Aside _ := hput
      have hlo := fun V (hV : Below w.heap.size w V) => (h.toQM.below hV).lookS hp hn
      rw [hst, hig] at hlo
      have hco := fun V (hV : Below w.heap.size w V) => (h.toQM.below hV).c0
      have HLO : Aside _ := hlo
      have HCO : Aside _ := hco
      clear hput hq hkl hig hd hlo hco
      generalize (if p.ig sig = true then p.wt else putS p.wt sig true) = f2 at *
      generalize hf1 : putS p.wt sig true = f1 at *
      clear hf1
      go_enter Tryz.func61, Tryz.ntmps61
      go_upto_region 6 with (first
        | (go_at_call 149; refine hin.mono ?_; rintro e w1 ⟨rfl, hw⟩; subst w1)
        | (go_at_call 137; refine hr.mono ?_; rintro e w1 ⟨rfl, hb⟩))
      have c1 := HCO.out w1 hb
      have l1 := HLO.out w1 hb
      go_upto_region 7 with fail
      clear c1 l1
      go_region_with (first
        | (go_at_call 150; refine (hwi _).mono ?_; rintro e w2 ⟨rfl, hw⟩; subst w2)
        | (go_at_call 151; refine (hwo _).mono ?_; rintro e w2 ⟨rfl, hw⟩; subst w2))
      all_goals
        have hA : Below w.heap.size w (w1.alloc (.cells #[.int .i64 1, .int .i64 p.parent, .int .i64 p.code, .int .u64 ((msk f2 : Nat) : Int), .int .u64 ((msk p.ig : Nat) : Int)] 219)) := hb.alloc hb.size _
        obtain ⟨w5, hrun, h5⟩ := HPU.out _ (belowJ_dr (belowJ_dr hA))
        have c2 := HCO.out _ (belowJ_dr hA)
        clear hA hwi hwo hr hin
        go_upto_region 8 with fail
        go_region
        all_goals
          go_wp2_with fail
          go_ret
          exact ⟨rfl, h5⟩
  · have hE : killE P n sig = 2 := by unfold killE; rw [if_pos hs]
    rw [hE, if_neg (by omega), uev_ne (by omega)]
    have hb : (decide (1 ≤ sig) && decide (sig ≤ 8)) = false := by
      rw [Bool.and_eq_false_iff, decide_eq_false_iff_not, decide_eq_false_iff_not]; omega
    rw [hb] at hin
    go_enter Tryz.func61, Tryz.ntmps61
    go_wp2_with (go_at_call 149; refine hin.mono ?_; rintro e w1 ⟨rfl, hw⟩; subst w1)
    go_ret
    exact ⟨rfl, .same h (Below.refl _ _)⟩
end
end Go.Proofs.YtcfhanoekniaaaaGreatDoor

namespace Go.Proofs.YtcfhanoekniaaaaGreatDoor
open Go.RowKit Go.Maps Go.Sort

section
variable {w w' V : World} {t g c : Nat} {P : Ps} {n m sig pid : Int} {p : Pr}
set_option maxRecDepth 100000 in
set_option maxHeartbeats 4000000 in
theorem newTJ_ok (w : World) : Calls Tryz.prog 50 #[] w fun e w' => ∃ t g, e = .returned (wp t) ∧ QJ w' t g firstJ 1 ∧ Below w.heap.size w w' ∧ w.heap.size ≤ t ∧ w.heap.size ≤ g := by
  have hmm := @run_makeMap Tryz.prog
  have p0 : PMap (w.alloc (.map #[] 0)) w.heap.size 0 (fun _ => none) := PMap.made w
  have hsz : (w.alloc (.map #[] 0)).heap.size = w.heap.size + 1 := by show (w.heap.push _).size = _; rw [Array.size_push]
  have bA : Below w.heap.size w (w.alloc (.map #[] 0)) := (Below.refl _ w).alloc (Nat.le_refl _) _
  obtain ⟨w1, hrun, q0, g1⟩ := p0.put Tryz.underlying220 (by unfold maxLen; omega) 1 (by decide) (.agg #[.int .i64 1, .int .i64 0, .int .i64 0, .int .u64 0, .int .u64 0])
  have b1 : Below w.heap.size w w1 := ⟨g1.os.trans bA.os, g1.tape.trans bA.tape, g1.output.trans bA.output, Nat.le_trans bA.size g1.size, fun i hi => (g1.block i (by rw [hsz]; omega) (fun e => by have := Option.some.inj e; omega)).trans (bA.block i hi)⟩
  have hz1 : w.heap.size + 1 ≤ w1.heap.size := by have := g1.size; rw [hsz] at this; exact this
  have hfin : QJ (w1.alloc (.cells #[.map (some w.heap.size)] 222)) w1.heap.size w.heap.size firstJ 1 := by
    refine ⟨⟨?_, ?_, JOk.first.key⟩, .first, .first⟩
    · show (w1.heap.push _)[w1.heap.size]? = _
      rw [Array.getElem?_push, if_pos rfl]
    · have e : (fun i => if i = (1 : Int) then some (Value.agg #[.int .i64 1, .int .i64 0, .int .i64 0, .int .u64 0, .int .u64 0]) else (fun _ => none) i) = fun n => (firstJ n).map qv := by
        funext i; unfold firstJ
        by_cases e : i = 1
        · simp only [e, if_true, Option.map_some]; rfl
        · simp [e]
      rw [← e]
      exact q0.keep (Below.heap_alloc _ _ _ q0.lt)
  have b2 : Below w.heap.size w (w1.alloc (.cells #[.map (some w.heap.size)] 222)) := b1.alloc b1.size _
  clear q0 p0 g1 bA b1 hsz
  go_enter Tryz.func50, Tryz.ntmps50
  go_wp2_with fail
  go_ret
  exact ⟨w1.heap.size, w.heap.size, rfl, hfin, b2, by omega, Nat.le_refl _⟩
end
end Go.Proofs.YtcfhanoekniaaaaGreatDoor

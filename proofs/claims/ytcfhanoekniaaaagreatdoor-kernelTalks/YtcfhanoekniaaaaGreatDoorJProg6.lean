/- Package proc: least, Fork, hand, Exit, by their Go text. -/
import Derived.Test.YtcfhanoekniaaaaGreatDoorJProg3
import Derived.Test.YtcfhanoekniaaaaGreatDoorJProg5
namespace Go.Proofs.YtcfhanoekniaaaaGreatDoor
open Go.RowKit Go.Maps Go.Sort

section
variable {w w' V : World} {t g c : Nat} {P : Ps} {n m sig pid k : Int} {p q : Pr}
set_option maxRecDepth 100000 in
set_option maxHeartbeats 1000000 in
theorem QJ.leastT (h : QJ w t g P c) (hk : FreeJ P k) (h24 : k ≤ 24) : Calls Tryz.prog 138 #[wp t] w fun e w' => e = .returned (.int .i64 k) ∧ Below w.heap.size w w' := by
  have hkp := hk.pos
  go_enter Tryz.func138, Tryz.ntmps138
  go_wp2_with fail
  go_loopg [3] 25 (fun mm s3 wr => ∃ x : Nat, x + mm = 26 ∧ 1 ≤ x ∧ (x : Int) ≤ k ∧ s3 = .int .i64 (x : Int) ∧ Below w.heap.size w wr)
  case atStart => exact ⟨1, by omega, by omega, by omega, rfl, Below.refl _ _⟩
  case round =>
    obtain ⟨x, hx, hx1, hxk, rfl, hbel⟩ := hrel
    have hS := (h.below hbel).toQM.state x (wf64 (by omega))
    by_cases hxe : (x : Int) = k
    · rw [hxe, stJ_none hk.no] at hS
      rw [hxe] at *
      go_wp2_with (go_at_call 112; refine hS.mono ?_; rintro e w1 ⟨rfl, hb⟩)
      go_ret
      exact ⟨rfl, hbel.trans (hb.mono hbel.size)⟩
    · have hsm := hk.all x (by omega) (by omega)
      have hne := h.ok.isSome.1 hsm
      have hs0 : (stJ P x == 0) = false := by simpa using hne
      generalize stJ P x = s at *
      go_wp2_with (go_at_call 112; refine hS.mono ?_; rintro e w1 ⟨rfl, hb⟩)
      go_roundg (gk - 1)
      case measure => omega
      case rel => exact ⟨x + 1, by omega, by omega, by omega, by go_num, hbel.trans (hb.mono hbel.size)⟩
theorem JD.fork (h : JD P) (pid k : Int) : JD (forkP P pid k) := h.set (fun s z => by cases z) (fun z => by cases z)
set_option maxRecDepth 100000 in
set_option maxHeartbeats 4000000 in
theorem QJ.fork (h : QJ w t g P c) (pid : Int) (hn : (Lit.int .i64 pid).wf = true) : Calls Tryz.prog 55 #[wp t, .int .i64 pid] w fun e w' => e = .returned (.tuple #[.int .i64 (forkK P pid c), uev (forkE P pid c)]) ∧ QJo w t g (forkQ P pid c) w' := by
  have hr := h.toQM.runs pid hn
  have hco := fun V (hV : Below w.heap.size w V) => (h.toQM.below hV).c0
  have HCO : Aside _ := hco
  clear hco
  cases hru : runsJ P pid with
  | false =>
    rw [hru, if_neg (by simp), uev_ne (by omega)] at hr
    have hE : forkE P pid c = 7 := by unfold forkE; rw [if_pos hru]
    have hK : forkK P pid c = 0 := by unfold forkK; rw [hE, if_neg (by omega)]
    have hQ : forkQ P pid c = P := by unfold forkQ; rw [hE, if_neg (by omega)]
    rw [hE, hK, hQ, uev_ne (by omega)]
    go_enter Tryz.func55, Tryz.ntmps55
    go_wp2_with (go_at_call 137; refine hr.mono ?_; rintro e w1 ⟨rfl, hb⟩)
    go_ret2
    exact ⟨rfl, .same h hb⟩
  | true =>
    rw [hru, if_pos rfl, uev_zero] at hr
    by_cases h24 : 24 ≤ c
    · have hE : forkE P pid c = 12 := by unfold forkE; rw [if_neg (by rw [hru]; simp), if_pos h24]
      have hK : forkK P pid c = 0 := by unfold forkK; rw [hE, if_neg (by omega)]
      have hQ : forkQ P pid c = P := by unfold forkQ; rw [hE, if_neg (by omega)]
      rw [hE, hK, hQ, uev_ne (by omega)]
      have h24' : (24 : Int) ≤ (c : Int) := by omega
      go_enter Tryz.func55, Tryz.ntmps55
      go_upto_region 4 with (go_at_call 137; refine hr.mono ?_; rintro e w1 ⟨rfl, hb⟩)
      have c1 := HCO.out w1 hb
      have hm := (h.toQM.below hb).map
      go_wp2_with (at_len; refine wpList_klen rfl _ 220 rfl 219 Tryz.underlying220 g _ _ rfl hm ?_)
      go_ret2
      exact ⟨rfl, .same h hb⟩
    · have hE : forkE P pid c = 0 := by unfold forkE; rw [if_neg (by rw [hru]; simp), if_neg h24]
      obtain ⟨k, hk, hkl⟩ := FreeJ.ex h.toQM.num (by omega)
      have hK : forkK P pid c = k := by unfold forkK; rw [if_pos hE, leastJ_eq hk hkl]
      have hQ : forkQ P pid c = forkP P pid k := by unfold forkQ; rw [if_pos hE, leastJ_eq hk hkl]
      rw [hE, hK, hQ, uev_zero]
      obtain ⟨q, hq, hst⟩ := runsJ_iff.1 hru
      have h24' : (c : Int) < 24 := by omega
      have hkp := hk.pos
      have hig : igJ P pid = q.ig := by unfold igJ; rw [hq]; rfl
      have hput : ∀ V, Below w.heap.size w V → ∃ w5, (Instr.mapUpdate 220 (.map (some g)) (.int .i64 k) (.agg #[.int .i64 1, .int .i64 pid, .int .i64 0, .int .u64 0, .int .u64 ((msk q.ig : Nat) : Int)])).run Tryz.prog V = .ok () w5 ∧ QJo w t g (forkP P pid k) w5 := fun V hV => by
        obtain ⟨w5, hrun, h5, s5⟩ := h.toQM.put hV k ⟨hkp, hkl⟩ ⟨pid, 1, 0, noSig, igJ P pid⟩
        have e : qv ⟨pid, 1, 0, noSig, igJ P pid⟩ = .agg #[.int .i64 1, .int .i64 pid, .int .i64 0, .int .u64 0, .int .u64 ((msk q.ig : Nat) : Int)] := by
          unfold qv igQ; simp only [hig, if_true]; unfold mv; rw [msk_no]; rfl
        rw [e] at hrun
        exact ⟨w5, hrun, _, ⟨h5, h.ok.fork hru hk hkl, h.dj.fork pid k⟩, s5⟩
      have HPU : Aside _ := hput
      have hlo := fun V (hV : Below w.heap.size w V) => (h.toQM.below hV).lookS hq hn
      rw [hst, igQ_run hst] at hlo
      have HLO : Aside _ := hlo
      have hle := fun V (hV : Below w.heap.size w V) => (h.below hV).leastT hk hkl
      have HLE : Aside _ := hle
      clear hput hlo hle hst hig
      go_enter Tryz.func55, Tryz.ntmps55
      go_upto_region 4 with (go_at_call 137; refine hr.mono ?_; rintro e w1 ⟨rfl, hb⟩)
      have c1 := HCO.out w1 hb
      have hm := (h.toQM.below hb).map
      have hl1 := HLE.out w1 hb
      go_upto_region 7 with (first
        | (at_len; refine wpList_klen rfl _ 220 rfl 219 Tryz.underlying220 g _ _ rfl hm ?_)
        | (go_at_call 138; refine hl1.mono ?_; rintro e w2 ⟨rfl, hb2⟩))
      have b2 : Below w.heap.size w w2 := hb.trans (hb2.mono hb.size)
      have c2 := HCO.out w2 b2
      have l2 := HLO.out _ (belowJ_dr b2)
      have f2 := (qv_f 1 q.parent q.code (msk q.wt : Nat) (msk q.ig : Nat) w2.drew).2.2.2
      obtain ⟨w5, hrun, h5⟩ := HPU.out _ (belowJ_dr b2)
      clear hm hl1 hr c1
      go_region
      all_goals
        go_wp2_with fail
        go_ret2
        exact ⟨rfl, h5⟩
set_option maxRecDepth 100000 in
set_option maxHeartbeats 4000000 in
theorem QM.hand (h : QM w t g P c) (hq : P n = some q) (to : Int) : Calls Tryz.prog 249 #[wp t, .int .i64 n, .int .i64 to] w fun e w' => e = .returned (.tuple #[]) ∧ QM w' t g (setJ P n { q with parent := to }) c ∧ WtG g w w' := by
  have hk := h.key n q hq
  have c0 := h.c0
  have l0 := h.lookS hq (wf64 (by omega))
  have hput : ∀ V, Below w.heap.size w V → ∃ w5, (Instr.mapUpdate 220 (.map (some g)) (.int .i64 n) (.agg #[.int .i64 q.state, .int .i64 to, .int .i64 q.code, .int .u64 ((msk q.wt : Nat) : Int), .int .u64 ((msk (igQ q) : Nat) : Int)])).run Tryz.prog V = .ok () w5 ∧ QM w5 t g (setJ P n { q with parent := to }) c ∧ WtG g w w5 := fun V hV => by
    obtain ⟨w5, hrun, h5, s5⟩ := h.put hV n hk { q with parent := to }
    rw [hq] at h5
    exact ⟨w5, hrun, h5, s5⟩
  have hA := (Below.refl _ w).alloc (Nat.le_refl _) (.cells #[.int .i64 q.state, .int .i64 to, .int .i64 q.code, .int .u64 ((msk q.wt : Nat) : Int), .int .u64 ((msk (igQ q) : Nat) : Int)] 219)
  obtain ⟨w5, hrun, h5⟩ := hput _ (belowJ_dr hA)
  have c1 := (h.below hA).c0
  clear hput hA h hk
  go_enter Tryz.func249, Tryz.ntmps249
  go_upto_region 2 with fail
  go_region
  all_goals
    go_wp2_with fail
    go_end0
    exact ⟨rfl, h5⟩
end
end Go.Proofs.YtcfhanoekniaaaaGreatDoor

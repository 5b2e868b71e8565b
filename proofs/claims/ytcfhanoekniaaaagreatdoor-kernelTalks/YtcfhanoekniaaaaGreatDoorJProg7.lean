/- Package proc: Exit, by its Go text. -/
import Derived.Test.YtcfhanoekniaaaaGreatDoorJProg6
import Derived.Deep.DeepCutAuto
namespace Go.Proofs.YtcfhanoekniaaaaGreatDoor
open Go.RowKit Go.Maps Go.Sort

/-- Those of a list are 1's. -/
def handed (P : Ps) (S : List Int) : Ps := fun n => if n ∈ S then (P n).map (fun q => { q with parent := 1 }) else P n
def deadP (P : Ps) (pid code : Int) (q : Pr) : Ps := setJ P pid { q with state := 2, code := code, wt := noSig }
section
variable {w w' V : World} {t g c : Nat} {P : Ps} {n m sig pid k code : Int} {p q : Pr}
theorem handed_nil : handed P [] = P := by funext n; unfold handed; simp
theorem handed_add {L : List Int} {x : Int} (hx : x ∉ L) (hp : P x = some q) : handed P L x = some q ∧ setJ (handed P L) x { q with parent := 1 } = handed P (L ++ [x]) := by
  refine ⟨by unfold handed; rw [if_neg hx]; exact hp, ?_⟩
  funext i
  unfold setJ handed
  by_cases e : i = x
  · subst e; simp [hp]
  · simp [e]
theorem handed_all (ok : JOk P) (hq : P pid = some q) (h1 : pid ≠ 1) : handed (deadP P pid code q) (ownL (deadP P pid code q) pid) = exitP P pid code := by
  have hpn := (ok.par pid q hq h1).2
  have ho : ∀ i, i ∈ ownL (deadP P pid code q) pid ↔ i ≠ pid ∧ ∃ r, P i = some r ∧ r.parent = pid := fun i => by
    unfold ownL
    rw [List.mem_filter]
    unfold ownJ
    rw [decide_eq_true_iff]
    by_cases e : i = pid
    · subst e
      have hd : deadP P i code q i = some { q with state := 2, code := code, wt := noSig } := setJ_same _ _ _
      rw [parJ_some hd]
      constructor
      · rintro ⟨_, z⟩; exact absurd z hpn
      · rintro ⟨z, _⟩; exact absurd rfl z
    · have hd : deadP P pid code q i = P i := setJ_ne e
      constructor
      · rintro ⟨z1, z2⟩
        unfold pidsJ at z1
        have := (List.mem_filter.1 z1).2
        rw [hd] at this
        obtain ⟨r, hr⟩ := Option.isSome_iff_exists.1 this
        have hd2 : deadP P pid code q i = some r := hd.trans hr
        rw [parJ_some hd2] at z2
        exact ⟨e, r, hr, z2⟩
      · rintro ⟨_, r, hr, hp⟩
        have hd2 : deadP P pid code q i = some r := hd.trans hr
        have hk := ok.key i r hr
        refine ⟨?_, by rw [parJ_some hd2]; exact hp⟩
        unfold pidsJ
        exact List.mem_filter.2 ⟨List.mem_map.2 ⟨(i - 1).toNat, List.mem_range.2 (by omega), by omega⟩, by rw [hd2]; rfl⟩
  funext i
  unfold handed exitP
  by_cases e : i = pid
  · subst e
    rw [if_neg (fun z => ((ho i).1 z).1 rfl), hq]
    show setJ _ _ _ _ = _
    rw [setJ_same]
    simp only [Option.map_some, exit1, if_true, if_neg hpn]
  · have hd : deadP P pid code q i = P i := setJ_ne e
    rw [hd]
    cases hr : P i with
    | none => split <;> rfl
    | some r =>
      by_cases hp : r.parent = pid
      · rw [if_pos ((ho i).2 ⟨e, r, hr, hp⟩)]
        simp only [Option.map_some, exit1, if_neg e, if_pos hp]
      · rw [if_neg (fun z => by
          obtain ⟨_, r', hr', hp'⟩ := (ho i).1 z
          rw [hr] at hr'; cases hr'
          exact hp hp')]
        simp only [Option.map_some, exit1, if_neg e, if_neg hp]
theorem JD.exit (h : JD P) (pid code : Int) : JD (exitP P pid code) := by
  have cs : ∀ i p, exitP P pid code i = some p → ∃ q, P i = some q ∧ p = exit1 pid code i q := fun i p e => by
    unfold exitP at e
    cases hq : P i with
    | none => rw [hq] at e; cases e
    | some q => rw [hq] at e; exact ⟨q, rfl, (Option.some.inj e).symm⟩
  refine ⟨fun i p e s z => ?_, fun i p e z => ?_⟩
  · obtain ⟨q, hq, rfl⟩ := cs i p e
    rw [(exit1_sig q).1] at z
    rw [(exit1_sig q).2]
    split at z
    · cases z
    · exact h.dis i q hq s z
  · obtain ⟨q, hq, rfl⟩ := cs i p e
    rw [exit1_st] at z
    rw [(exit1_sig q).1]
    split
    · rfl
    · rename_i hne
      rw [if_neg hne] at z
      exact h.dead i q hq z
theorem ownL_mem {P : Ps} {x : Int} (hx : x ∈ ownL P pid) : (P x).isSome = true := by
  unfold ownL at hx
  have := (List.mem_filter.1 hx).1
  unfold pidsJ at this
  exact (List.mem_filter.1 this).2
theorem ownL_nodup (P : Ps) (pid : Int) : (ownL P pid).Nodup := (pidsJ_nodup P).filter _
theorem ownL_len (P : Ps) (pid : Int) : (ownL P pid).length ≤ 24 := by
  have := pidsJ_len P
  have : (ownL P pid).length ≤ (pidsJ P).length := by unfold ownL; exact List.length_filter_le _ _
  omega
set_option maxRecDepth 100000 in
set_option maxHeartbeats 4000000 in
theorem QJ.exit (h : QJ w t g P c) (pid code : Int) (hn : (Lit.int .i64 pid).wf = true) : Calls Tryz.prog 158 #[wp t, .int .i64 pid, .int .i64 code] w fun e w' => e = .returned (uev (exitE P pid)) ∧ QJo w t g (if exitE P pid = 0 then exitP P pid code else P) w' := by
  have hr := h.toQM.runs pid hn
  cases hru : runsJ P pid with
  | false =>
    rw [hru, if_neg (by simp), uev_ne (by omega)] at hr
    have hE : exitE P pid = 7 := by unfold exitE; rw [if_pos hru]
    rw [hE, if_neg (by omega), uev_ne (by omega)]
    go_enter Tryz.func158, Tryz.ntmps158
    go_wp2_with (go_at_call 137; refine hr.mono ?_; rintro e w1 ⟨rfl, hb⟩)
    go_ret
    exact ⟨rfl, .same h hb⟩
  | true =>
    rw [hru, if_pos rfl, uev_zero] at hr
    by_cases h1 : pid = 1
    · have hE : exitE P pid = 6 := by unfold exitE; rw [if_neg (by rw [hru]; simp), if_pos h1]
      rw [hE, if_neg (by omega), uev_ne (by omega)]
      subst h1
      go_enter Tryz.func158, Tryz.ntmps158
      go_wp2_with (go_at_call 137; refine hr.mono ?_; rintro e w1 ⟨rfl, hb⟩)
      go_ret
      exact ⟨rfl, .same h hb⟩
    · have hE : exitE P pid = 0 := by unfold exitE; rw [if_neg (by rw [hru]; simp), if_neg h1]
      rw [hE, if_pos rfl, uev_zero]
      have hb1 : (pid == 1) = false := by simpa using h1
      obtain ⟨q, hq, hst⟩ := runsJ_iff.1 hru
      have hk := h.key pid q hq
      have hput : ∀ V, Below w.heap.size w V → ∃ w5, (Instr.mapUpdate 220 (.map (some g)) (.int .i64 pid) (.agg #[.int .i64 2, .int .i64 q.parent, .int .i64 code, .int .u64 0, .int .u64 0])).run Tryz.prog V = .ok () w5 ∧ QM w5 t g (deadP P pid code q) c ∧ WtG g w w5 := fun V hV => by
        obtain ⟨w5, hrun, h5, s5⟩ := h.toQM.put hV pid hk { q with state := 2, code := code, wt := noSig }
        rw [hq] at h5
        have e : qv { q with state := 2, code := code, wt := noSig } = .agg #[.int .i64 2, .int .i64 q.parent, .int .i64 code, .int .u64 0, .int .u64 0] := by
          unfold qv igQ; simp only [show ¬ ((2 : Int) = 1) by omega, if_false]; unfold mv; rw [msk_no]; rfl
        rw [e] at hrun
        exact ⟨w5, hrun, h5, s5⟩
      have HPU : Aside _ := hput
      have hco := fun V (hV : Below w.heap.size w V) => (h.toQM.below hV).c0
      have HCO : Aside _ := hco
      have hpa := fun V (hV : Below w.heap.size w V) => (h.toQM.below hV).parent pid hn
      rw [parJ_some hq] at hpa
      have HPA : Aside _ := hpa
      have hfin : ∀ W, QM W t g (exitP P pid code) c → WtG g w W → QJo w t g (exitP P pid code) W := fun W a b => ⟨c, ⟨a, h.ok.exit hru h1, h.dj.exit pid code⟩, b⟩
      have hall := handed_all (code := code) h.ok hq h1
      have hds : (deadP P pid code q pid).isSome = true := by show (setJ _ _ _ _).isSome = true; rw [setJ_same]; rfl
      have HFI : Aside _ := hfin
      clear hput hco hpa hst hfin
      generalize deadP P pid code q = P1 at *
      have HAL : Aside _ := hall
      clear hall
      go_enter Tryz.func158, Tryz.ntmps158
      go_upto_region 6 with (go_at_call 137; refine hr.mono ?_; rintro e w1 ⟨rfl, hb⟩)
      have c1 := HCO.out w1 hb
      have p2 := HPA.out w1.drew (belowJ_dr hb)
      go_cut [28] (fun _ W => QM W t g P1 c ∧ WtG g w W)
      case first =>
        go_region_with (go_at_call 248; refine p2.mono ?_; rintro e w2 ⟨rfl, hb2⟩; have b2 : Below w.heap.size w w2 := (belowJ_dr hb).trans (hb2.mono hb.size); have c2 := HCO.out w2 b2; obtain ⟨w5, hrun, h5⟩ := HPU.out _ b2)
        all_goals
          go_wp2_with fail
          go_meet
          case rel => exact h5
      case rest =>
        obtain ⟨hq1, hw1⟩ := hcut
        have hO := hq1.own hds pid
        have hol := ownL_len P1 pid
        have hon := ownL_nodup P1 pid
        have hom := fun x (hx : x ∈ ownL P1 pid) => ownL_mem (P := P1) (pid := pid) hx
        clear c1 p2 hr
        generalize ownL P1 pid = L at *
        go_wp2_with (go_at_call 212; refine hO.mono ?_; rintro e w2 ⟨b, cap, rfl, hcap, hb1', hb2, hcc, hbel⟩)
        go_loopg [9, 33] L.length (fun mm _ s33 wr => ∃ i : Nat, i + mm = L.length ∧ s33 = .int .i64 (i : Int) ∧ QM wr t g (handed P1 (L.take i)) c ∧ WtG g w2 wr)
        case atStart => exact ⟨0, by omega, rfl, by rw [List.take_zero, handed_nil]; exact hq1.below hbel, .ofB (Below.refl _ _)⟩
        case round =>
          obtain ⟨i, hi, rfl, hQ, hW⟩ := hrel
          by_cases hlt : (i : Int) < (L.length : Int)
          · have hiL : i < L.length := by omega
            have hgw : g < wc.heap.size := hq1.map.lt
            have cb : wr.cell? ⟨b, i, none⟩ = some (.int .i64 L[i]) := by
              rw [World.cell?_of_block (w := w2) (a := ⟨b, i, none⟩) (hW.block b hb2 (by omega))]; exact hcc i hiL
            obtain ⟨r, hr⟩ := Option.isSome_iff_exists.1 (hom _ (List.getElem_mem hiL))
            have hni : L[i] ∉ L.take i := fun z => by
              obtain ⟨j, hj, e⟩ := List.getElem_of_mem z
              rw [List.getElem_take] at e
              rw [List.length_take] at hj
              have := (List.getElem_inj hon).1 e
              omega
            obtain ⟨a1, a2⟩ := handed_add (L := L.take i) hni hr
            have hH := hQ.hand a1 1
            rw [a2, ← take_add hiL] at hH
            have hcap' : (i : Int) < (cap : Int) := by omega
            clear a2 hni hQ hr a1
            generalize L[i] = X at *
            go_wp2_with (go_at_call 249; refine hH.mono ?_; rintro e w3 ⟨rfl, hq3, hw3⟩)
            go_roundg (gk - 1)
            case measure => omega
            case rel => exact ⟨i + 1, by omega, by go_num, hq3, hW.trans hw3⟩
          · have hiL : i = L.length := by omega
            have hfin := HFI.out wr (by rw [hiL, List.take_length, HAL.out] at hQ; exact hQ) ((hw1.trans (.below _ hbel)).trans hW)
            clear hQ hW hiL
            go_wp2_with fail
            go_ret
            exact ⟨rfl, hfin⟩
end
end Go.Proofs.YtcfhanoekniaaaaGreatDoor

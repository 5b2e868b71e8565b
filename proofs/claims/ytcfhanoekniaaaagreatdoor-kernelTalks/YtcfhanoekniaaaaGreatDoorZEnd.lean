/- How many numbers a table has, behind each call. -/
import Derived.Test.YtcfhanoekniaaaaGreatDoorDFlat2
import Derived.Test.YtcfhanoekniaaaaGreatDoorZFind
import Derived.Test.YtcfhanoekniaaaaGreatDoorZSet
namespace Go.Proofs.YtcfhanoekniaaaaGreatDoor

theorem used_put : ∀ (N : Ns) (i : Nat) (hi : i < N.length) (y : Int × Bool), usedN (N.set i y) + (if 0 < N[i].1 then 1 else 0) = usedN N + (if 0 < y.1 then 1 else 0)
  | [], i, hi, _ => absurd hi (Nat.not_lt_zero _)
  | x :: N, 0, _, y => by
    simp only [List.set_cons_zero, usedN, List.filter_cons, List.getElem_cons_zero, decide_eq_true_eq]
    split <;> split <;> simp
  | x :: N, i + 1, hi, y => by
    have := used_put N i (by simpa using hi) y
    simp only [List.set_cons_succ, usedN, List.filter_cons, List.getElem_cons_succ] at this ⊢
    split
    · simp only [List.length_cons]; omega
    · exact this
section
variable {D : DS} {N : Ns} {x y : Int}
theorem used_close (h8 : N.length = 8) (x : Int) : usedN (closeN N x) + (if hasN N x = true then 1 else 0) = usedN N := by
  unfold closeN
  by_cases h : hasN N x = true
  · rw [if_pos h, if_pos h]
    obtain ⟨i, rfl, hi, hiL, h0⟩ := hasN_at h h8
    have := used_put N i hiL (0, false)
    rw [if_pos h0, if_neg (by simp)] at this
    rw [Int.toNat_natCast]; omega
  · rw [if_neg h, if_neg h]; omega
theorem least_inN (_h8 : N.length = 8) (h : ¬ leastN N < 0) : ∃ i : Nat, leastN N = i ∧ ∃ hi : i < N.length, N[i].1 = 0 := by
  rcases least_lt (N := N) with e | e
  · rw [e] at h; exact absurd (by omega) h
  · exact e
theorem used_add (h8 : N.length = 8) (h : ¬ leastN N < 0) {d : Int} (hd : 0 < d) (c : Bool) : usedN (N.set (leastN N).toNat (d, c)) = usedN N + 1 := by
  obtain ⟨i, e, hi, h0⟩ := least_inN h8 h
  have := used_put N i hi (d, c)
  rw [h0, if_neg (by omega), if_pos hd] at this
  rw [e, Int.toNat_natCast]; omega
theorem used_pipe {n : Nat} {c : Int} {D' : DS} {N' : Ns} (h8 : N.length = 8) (hnn : ∀ x ∈ N, 0 ≤ x.1) (hn : 0 ≤ D.nx) (h : PipeO D N n x y c D' N') : (c = 0 → usedN N' = usedN N + 2) ∧ (c ≠ 0 → x = 0 ∧ y = 0 ∧ D' = D ∧ N' = N) := by
  rcases h with ⟨_, rfl, rfl, rfl, rfl, rfl⟩ | ⟨hf, rfl, rfl, rfl, rfl, rfl⟩
  · exact ⟨fun z => by omega, fun _ => ⟨rfl, rfl, rfl, rfl⟩⟩
  · refine ⟨fun _ => ?_, fun z => absurd rfl z⟩
    have hu : usedN N + 2 ≤ 8 := by unfold noPipe at hf; omega
    have e1 : ¬ leastN N < 0 := fun z => by
      have := (used_least hnn).1 z; omega
    have u1 : usedN (pipeN1 D N) = usedN N + 1 := used_add h8 e1 (show 0 < (pipeD0 D).nx + 1 by unfold pipeD0; simp only; omega) false
    have h8' : (pipeN1 D N).length = 8 := by unfold pipeN1 addN; rw [List.length_set]; exact h8
    have h2 : ∀ x ∈ pipeN1 D N, 0 ≤ x.1 := fun x hx => by
      unfold pipeN1 addN at hx
      rcases List.mem_or_eq_of_mem_set hx with h1 | h1
      · exact hnn x h1
      · rw [h1]; show 0 ≤ D.nx + 1 + 1; omega
    have e2 : ¬ leastN (pipeN1 D N) < 0 := fun z => by
      have := (used_least h2).1 z; omega
    have := used_add h8' e2 (show 0 < (pipeD1 D).nx + 1 by unfold pipeD1 pipeD0 addD; simp only; omega) false
    unfold pipeN addN
    omega
theorem tab_zero {N' : Ns} (h8 : N'.length = 8) (hu : usedN N' = 0) (ht : ∀ x ∈ N', 0 ≤ x.1 ∧ (x.1 = 0 → x.2 = false)) : N' = zeroN := by
  have h1 : ∀ x ∈ N', x = ((0 : Int), false) := fun x hx => by
    have a := ht x hx
    have b : ¬ 0 < x.1 := fun z => by
      unfold usedN at hu
      rw [List.length_eq_zero_iff, List.filter_eq_nil_iff] at hu
      exact hu x hx (by simpa using z)
    have c : x.1 = 0 := by omega
    exact Prod.ext c (a.2 c)
  exact List.eq_replicate_iff.2 ⟨h8, h1⟩
end
end Go.Proofs.YtcfhanoekniaaaaGreatDoor

namespace Go.Proofs.YtcfhanoekniaaaaGreatDoor
open Go.RowKit Go.Maps

section
variable {w w' : World} {m : Int} {H : KH} {S : KS} {U : Nat → Nat → Int} {q : Nat} {A : Nat → Prop} {p : Int} {o : Ow}
theorem KX.cells2 (h : KX w m H S U q A) (ho : S.O p = some o) : w.cell? ⟨H.kb, 2, none⟩ = some (wp H.f) ∧ w.cell? ⟨H.hs o.j, 1, none⟩ = some (wp (H.tb o.j)) := ⟨h.c2, (h.hd ho).at 1⟩
set_option maxRecDepth 100000 in
set_option maxHeartbeats 4000000 in
theorem KN.read_yes (h : KN w m H S q A) (ho : S.O p = some o) (x a : Int) :
    Calls Tryz.prog 19 #[wp H.kb, .int .i64 p, .int .i64 x, .int .i64 a] w fun y w' => y = .returned (.tuple #[tx (readO S.D (tsJ S o.j) x a).1, uev (readO S.D (tsJ S o.j) x a).2.1]) ∧ ∃ A', KN w' m H (S.files (readO S.D (tsJ S o.j) x a).2.2 o.j (tsJ S o.j)) q A' ∧ Stp w w' A A' := by
  have hF := h.1.find_yes ho
  have hj := h.1.jlt ho
  have c0 := h.1.cells2 ho
  have hU : Calls Tryz.prog 63 #[wp H.f, wp (H.tb o.j), .int .i64 x, .int .i64 a] w.drew fun y w' => y = .returned (.tuple #[tx (readO S.D (tsJ S o.j) x a).1, uev (readO S.D (tsJ S o.j) x a).2.1]) ∧ (w'.cell? ⟨H.kb, 2, none⟩ = some (wp H.f) ∧ w'.cell? ⟨H.hs o.j, 1, none⟩ = some (wp (H.tb o.j))) ∧ ∃ A', KN w' m H (S.files (readO S.D (tsJ S o.j) x a).2.2 o.j (tsJ S o.j)) q A' ∧ Stp w w' A A' := by
    refine ((h.1.below (bel_drew w)).readT hj x a).mono ?_
    rintro y w1 ⟨rfl, A1, h1, st1⟩
    exact ⟨rfl, h1.cells2 (p := p) (o := o) ho, A1, h1.filesN h.2 ho hj rfl, Stp.base (V := w.drew) rfl rfl rfl rfl st1⟩
  generalize S.files (readO S.D (tsJ S o.j) x a).2.2 o.j (tsJ S o.j) = S2 at *
  generalize (readO S.D (tsJ S o.j) x a).2.1 = E at *
  generalize (readO S.D (tsJ S o.j) x a).1 = X at *
  clear h ho hj
  go_enter Tryz.func19, Tryz.ntmps19
  go_upto_region 4 with (go_at_call 51; refine hF.mono ?_; rintro e w1 ⟨rfl, hw⟩; subst w1)
  go_region_held3 (fun w' => w'.cell? ⟨H.kb, 2, none⟩ = some (wp H.f) ∧ w'.cell? ⟨H.hs o.j, 1, none⟩ = some (wp (H.tb o.j))) (first | exact c0 | exact c1) (first
    | (go_at_call 63; refine hU.mono ?_; rintro e w1 ⟨rfl, c1, hR⟩))
  all_goals
    go_wp2_with fail
    go_ret2
    exact ⟨rfl, hR⟩
/-- Close. -/
noncomputable def closeKS (S : KS) (o : Ow) (x : Int) : KS := S.files (closeD S.D (tsJ S o.j) x) o.j (closeN (tsJ S o.j) x)
theorem KX.settleF (h : KN w m H S q A) (ho : S.O p = some o) {V : World} {D' : DS} {N' : Ns} {q' : Nat} {A1 : Nat → Prop} (h1 : KX V m H (S.files D' o.j N') (Uof S) q' A1) (st1 : Stp w V A A1) (hu : usedN N' ≤ usedN (tsJ S o.j)) :
    Calls Tryz.prog 58 #[wp (H.hs o.j)] V fun y w2 => y = .returned (.tuple #[]) ∧ ∃ A', KN w2 m H (S.files D' o.j N') q' A' ∧ Stp w w2 A A' := by
  have hj := h.1.jlt ho
  refine (h1.settle (h.2.files ho _ _) (p := p) (o := o) ho (h.1.fitU o.j) ?_ ?_ rfl (fun p' o' ho' hne k hk => ?_)).mono ?_
  · exact Int.le_refl _
  · rw [ts_files hj, if_pos rfl]
    show _ ≤ ((usedN (tsJ S o.j) : Nat) : Int)
    omega
  · unfold Uof
    rw [ts_files hj, if_neg hne, ms_files]
  · rintro y w2 ⟨rfl, A2, h2, st2⟩
    exact ⟨rfl, A2, h2, st1.trans st2⟩
set_option maxRecDepth 100000 in
set_option maxHeartbeats 4000000 in
theorem KN.close_yes (h : KN w m H S q A) (ho : S.O p = some o) (hq : q ≤ 200) (x : Int) :
    Calls Tryz.prog 15 #[wp H.kb, .int .i64 p, .int .i64 x] w fun y w' => y = .returned (uev (if hasN (tsJ S o.j) x = true then 0 else 7)) ∧ ∃ A', KN w' m H (closeKS S o x) q A' ∧ Stp w w' A A' := by
  have hF := h.1.find_yes ho
  have hj := h.1.jlt ho
  have c0 := h.1.cells2 ho
  have hU : Calls Tryz.prog 57 #[wp H.f, wp (H.tb o.j), .int .i64 x] w.drew fun y w' => y = .returned (uev (if hasN (tsJ S o.j) x = true then 0 else 7)) ∧ (w'.cell? ⟨H.kb, 2, none⟩ = some (wp H.f) ∧ w'.cell? ⟨H.hs o.j, 1, none⟩ = some (wp (H.tb o.j))) ∧ ((if hasN (tsJ S o.j) x = true then (0 : Int) else 7) ≠ 0 → ∃ A', KN w' m H (closeKS S o x) q A' ∧ Stp w w' A A') ∧ ((if hasN (tsJ S o.j) x = true then (0 : Int) else 7) = 0 → Calls Tryz.prog 58 #[wp (H.hs o.j)] w' fun y w2 => y = .returned (.tuple #[]) ∧ ∃ A', KN w2 m H (closeKS S o x) q A' ∧ Stp w w2 A A') := by
    refine ((h.1.below (bel_drew w)).closeT hj hq x).mono ?_
    rintro y w1 ⟨rfl, A1, h1, st1⟩
    have st1' : Stp w w1 A A1 := Stp.base (V := w.drew) rfl rfl rfl rfl st1
    refine ⟨rfl, h1.cells2 (p := p) (o := o) ho, fun hc => ⟨A1, h1.filesN h.2 ho hj ?_, st1'⟩, fun hc => KX.settleF h ho h1 st1' ?_⟩
    · have := used_close (h.1.tlen o.j) x
      split at hc
      · exact absurd rfl hc
      · rename_i z; rw [if_neg z] at this; omega
    · have := used_close (h.1.tlen o.j) x
      omega
  generalize closeKS S o x = S2 at *
  generalize (if hasN (tsJ S o.j) x = true then (0 : Int) else 7) = E at *
  clear h ho hj
  go_enter Tryz.func15, Tryz.ntmps15
  go_upto_region 4 with (go_at_call 51; refine hF.mono ?_; rintro e w1 ⟨rfl, hw⟩; subst w1)
  go_region_held3 (fun w' => w'.cell? ⟨H.kb, 2, none⟩ = some (wp H.f) ∧ w'.cell? ⟨H.hs o.j, 1, none⟩ = some (wp (H.tb o.j))) (first | exact c0 | exact c1) (first
    | (go_at_call 57; refine hU.mono ?_; rintro e w1 ⟨rfl, c1, hx1, hx0⟩; have X1 : Aside _ := hx1; have X0 : Aside _ := hx0; clear hx1 hx0))
  all_goals
    clear hU hF c0 c1
    by_cases hE : E = 0
    · have hs := X0.out hE
      clear X1 X0
      subst hE
      rw [uev_zero]
      go_wp2_with (go_at_call 58; refine hs.mono ?_; rintro e w2 ⟨rfl, hR⟩)
      go_ret
      exact ⟨rfl, hR⟩
    · have hR := X1.out hE
      have HE : Aside (E ≠ 0) := hE
      rw [uev_ne hE]
      clear X1 X0 hE
      go_wp2_with fail
      go_ret
      exact ⟨by rw [uev_ne HE.out]; rfl, hR⟩
end
end Go.Proofs.YtcfhanoekniaaaaGreatDoor

namespace Go.Proofs.YtcfhanoekniaaaaGreatDoor
open Go.RowKit Go.Maps

section
variable {w w' : World} {m : Int} {H : KH} {S : KS} {U : Nat → Nat → Int} {q : Nat} {A : Nat → Prop} {p : Int} {o : Ow}
/-- What is left behind somebody's end. -/
noncomputable def endKS (S : KS) (p : Int) (o : Ow) (code : Int) : KS := ((((S.procs (exitP S.P p code)).space o.j noP S.W).files (freeS true S.D (tsJ S o.j) 8).1 o.j zeroN)).drop p
theorem KX.drop (h : KX w m H S U q A) (hp : (Lit.int .i64 p).wf = true) : ∃ w', (∀ ty, (Builtin.delete_ #[104, 3] ty #[.map (some H.gm), .int .i64 p]).run Tryz.prog w = .ok (.tuple #[]) w') ∧ ∃ A', KX w' m H (S.drop p) U q A' ∧ Stp w w' A A' := by
  obtain ⟨G, k, e⟩ := h
  obtain ⟨z, hm⟩ := k.map
  obtain ⟨w', hrun, hm', g⟩ := del_run hm Tryz.underlying104 p hp
  obtain ⟨G', k', st⟩ := k.del hm' g
  exact ⟨w', hrun, _, .of k', stp_iff e st⟩
theorem runs_exit (P : Ps) (code x : Int) (hr : runsJ P p = true) : runsJ (exitP P p code) x = if x = p then false else runsJ P x := by
  obtain ⟨q, hq, _⟩ := runsJ_iff.1 hr
  unfold runsJ
  rw [exitP_st]
  by_cases e : x = p
  · subst e
    rw [if_pos ⟨rfl, by rw [hq]; rfl⟩, if_pos rfl]; rfl
  · rw [if_neg (fun z => e z.1), if_neg e]
theorem KOk.ends (k : KOk S) (ho : S.O p = some o) (hj : o.j < S.Ts.length) (hl : S.Ms.length = S.Ts.length) (hinj : ∀ p' o', S.O p' = some o' → o'.j = o.j → p' = p) (code : Int) : KOk (endKS S p o code) := by
  have hr : runsJ S.P p = true := by rw [← k.run p, ho]; rfl
  have hO : ∀ x o', delO S.O p x = some o' → x ≠ p ∧ S.O x = some o' := fun x o' e => by
    unfold delO at e
    split at e
    · cases e
    · rename_i z; exact ⟨z, e⟩
  refine ⟨fun x => ?_, fun j hj' hn => ?_, fun x o' e => k.fit x o' (hO x o' e).2⟩
  · show (delO S.O p x).isSome = runsJ (exitP S.P p code) x
    rw [runs_exit _ _ _ hr]
    unfold delO
    by_cases e : x = p
    · rw [if_pos e, if_pos e]; rfl
    · rw [if_neg e, if_neg e]; exact k.run x
  · have hjl : j < S.Ts.length := by
      have : j < (S.Ts.set o.j zeroN).length := hj'
      simpa using this
    have e1 : tsJ (endKS S p o code) j = if j = o.j then zeroN else tsJ S j := ts_files (S := (S.procs (exitP S.P p code)).space o.j noP S.W) hj (freeS true S.D (tsJ S o.j) 8).1 zeroN j
    have e2 : msJ (endKS S p o code) j = if j = o.j then noP else msJ S j := ms_space (S := S.procs (exitP S.P p code)) (by show o.j < S.Ms.length; omega) noP S.W j
    rw [e1, e2]
    by_cases ej : j = o.j
    · rw [if_pos ej, if_pos ej]; exact ⟨rfl, rfl⟩
    · rw [if_neg ej, if_neg ej]
      refine k.gone j hjl (fun x o' e z => ?_)
      by_cases ex : x = p
      · subst ex
        rw [ho] at e
        cases e
        exact ej z.symm
      · exact hn x o' (by show delO S.O p x = some o'; unfold delO; rw [if_neg ex]; exact e) z
set_option maxRecDepth 100000 in
set_option maxHeartbeats 2000000 in
theorem KX.clear (h : KX w m H S U q A) (ho : S.O p = some o) (hq : q ≤ 200) :
    Calls Tryz.prog 159 #[wp (H.hs o.j), wp H.f] w fun y w' => y = .returned (.tuple #[]) ∧ ∃ A', KX w' m H ((S.space o.j noP S.W).files (freeS true S.D (tsJ S o.j) 8).1 o.j (freeS true S.D (tsJ S o.j) 8).2) U q A' ∧ Stp w w' A A' := by
  have hj := h.jlt ho
  have d0 : w.cell? ⟨H.hs o.j, 0, none⟩ = some (wp (H.sp o.j)) := (h.hd ho).at 0
  have hC : Calls Tryz.prog 114 #[wp (H.sp o.j)] w fun y w' => y = .returned (.tuple #[]) ∧ w'.cell? ⟨H.hs o.j, 1, none⟩ = some (wp (H.tb o.j)) ∧
      Calls Tryz.prog 250 #[wp H.f, wp (H.tb o.j)] w' fun y w2 => y = .returned (.tuple #[]) ∧ ∃ A', KX w2 m H ((S.space o.j noP S.W).files (freeS true S.D (tsJ S o.j) 8).1 o.j (freeS true S.D (tsJ S o.j) 8).2) U q A' ∧ Stp w w2 A A' := by
    refine (h.clearS hj).mono ?_
    rintro y w1 ⟨rfl, A1, h1, st1⟩
    refine ⟨rfl, (h1.hd (p := p) (o := o) ho).at 1, (h1.clearT (o := o) hj hq).mono ?_⟩
    rintro y w2 ⟨rfl, A2, h2, st2⟩
    exact ⟨rfl, A2, h2, st1.trans st2⟩
  generalize (S.space o.j noP S.W).files (freeS true S.D (tsJ S o.j) 8).1 o.j (freeS true S.D (tsJ S o.j) 8).2 = S2 at *
  clear h ho hj
  go_enter Tryz.func159, Tryz.ntmps159
  go_upto_region 1 with (go_at_call 114; refine hC.mono ?_; rintro e w1 ⟨rfl, c1, hE⟩)
  go_wp2_with (go_at_call 250; refine hE.mono ?_; rintro e w2 ⟨rfl, hR⟩)
  go_end0
  exact ⟨rfl, hR⟩
theorem KX.wfp (h : KX w m H S U q A) (ho : S.O p = some o) : (Lit.int .i64 p).wf = true := wf24 (h.key ho)
/-- Cells that stand all the while. -/
theorem KX.cells4 (h : KX w m H S U q A) (_ho : S.O p = some o) : w.cell? ⟨H.kb, 4, none⟩ = some (.map (some H.gm)) ∧ w.cell? ⟨H.kb, 2, none⟩ = some (wp H.f) := ⟨h.c4, h.c2⟩
set_option maxRecDepth 100000 in
set_option maxHeartbeats 4000000 in
theorem KN.end_yes (h : KN w m H S q A) (ho : S.O p = some o) (hq : q ≤ 200) (h1 : p ≠ 1) (code : Int) :
    Calls Tryz.prog 64 #[wp H.kb, .int .i64 p, .int .i64 code] w fun y w' => y = .returned .nilIface ∧ ∃ A', KN w' m H (endKS S p o code) q A' ∧ Stp w w' A A' := by
  have hj := h.1.jlt ho
  have hml := h.1.mlt ho
  have c3 := h.1.c3
  have hr : runsJ S.P p = true := by rw [← h.2.run p, ho]; rfl
  have hE0 : exitE S.P p = 0 := by unfold exitE; rw [hr, if_neg (by simp), if_neg h1]
  have hX : Calls Tryz.prog 158 #[wp H.t, .int .i64 p, .int .i64 code] w fun y w' => y = .returned .nilIface ∧ (w'.cell? ⟨H.kb, 4, none⟩ = some (.map (some H.gm)) ∧ w'.cell? ⟨H.kb, 2, none⟩ = some (wp H.f)) ∧ (Instr.lookup 104 (.map (some H.gm)) (.int .i64 p) false).run Tryz.prog w'.drew = .ok (wp (H.hs o.j)) w'.drew ∧
      Calls Tryz.prog 159 #[wp (H.hs o.j), wp H.f] w'.drew fun y w2 => y = .returned (.tuple #[]) ∧ (w2.cell? ⟨H.kb, 4, none⟩ = some (.map (some H.gm)) ∧ w2.cell? ⟨H.kb, 2, none⟩ = some (wp H.f)) ∧ ∃ w3, (∀ ty, (Builtin.delete_ #[104, 3] ty #[.map (some H.gm), .int .i64 p]).run Tryz.prog w2 = .ok (.tuple #[]) w3) ∧ ∃ A', KN w3 m H (endKS S p o code) q A' ∧ Stp w w3 A A' := by
    refine (h.1.exitK p code (h.1.wfp ho)).mono ?_
    rintro y w1 ⟨rfl, A1, k1, st1⟩
    rw [if_pos hE0] at k1
    refine ⟨by rw [hE0]; rfl, k1.cells4 (p := p) (o := o) ho, (k1.below (bel_drew w1)).lookS (p := p) (o := o) ho, ((k1.below (bel_drew w1)).clear (p := p) (o := o) ho hq).mono ?_⟩
    rintro y w2 ⟨rfl, A2, k2, st2⟩
    obtain ⟨w3, hrun, A3, k3, st3⟩ := k2.drop (p := p) (h.1.wfp ho)
    have st : Stp w w3 A A3 := (st1.trans (Stp.base (V := w1.drew) rfl rfl rfl rfl st2)).trans st3
    have hz : (freeS true S.D (tsJ S o.j) 8).2 = zeroN := by
      have hl8 : (freeS true S.D (tsJ S o.j) 8).2.length = 8 := by rw [(freeS_tab true S.D (tsJ S o.j) 8).1]; exact h.1.tlen _
      refine tab_zero hl8 (free_none _ (h.1.tlen _)) (fun x hx => (k2.inv.tab _ ?_).2 x hx)
      show _ ∈ S.Ts.set o.j _
      exact List.mem_set hj _
    have e : ((((S.procs (exitP S.P p code)).space o.j noP S.W).files (freeS true S.D (tsJ S o.j) 8).1 o.j (freeS true S.D (tsJ S o.j) 8).2)).drop p = endKS S p o code := by rw [hz]; rfl
    have k3' : KX w3 m H (endKS S p o code) (Uof S) q A3 := by rw [← e]; exact k3
    refine ⟨rfl, k2.cells4 (p := p) (o := o) ho, w3, hrun, A3, k3'.toN (h.2.ends ho hj h.1.len (fun p' o' ho' ej => h.1.inj ho' ho ej) code) (fun p' o' ho' k hk => ?_), st⟩
    have hO : p' ≠ p ∧ S.O p' = some o' := by
      have z : delO S.O p p' = some o' := ho'
      unfold delO at z
      split at z
      · cases z
      · rename_i y; exact ⟨y, z⟩
    have ej : o'.j ≠ o.j := fun z => hO.1 (h.1.inj hO.2 ho z)
    have e1 : tsJ (endKS S p o code) o'.j = if o'.j = o.j then zeroN else tsJ S o'.j := ts_files (S := (S.procs (exitP S.P p code)).space o.j noP S.W) hj (freeS true S.D (tsJ S o.j) 8).1 zeroN o'.j
    have e2 : msJ (endKS S p o code) o'.j = if o'.j = o.j then noP else msJ S o'.j := ms_space (S := S.procs (exitP S.P p code)) (by show o.j < S.Ms.length; omega) noP S.W o'.j
    unfold Uof
    rw [e1, e2, if_neg ej, if_neg ej]
  generalize endKS S p o code = S2 at *
  clear h ho hj hml hr hE0
  go_enter Tryz.func64, Tryz.ntmps64
  go_upto_region 4 with (go_at_call 158; refine hX.mono ?_; rintro e w1 ⟨rfl, c0, l0, hC⟩)
  clear hX c3
  go_region_held3 (fun w' => w'.cell? ⟨H.kb, 4, none⟩ = some (.map (some H.gm)) ∧ w'.cell? ⟨H.kb, 2, none⟩ = some (wp H.f)) (first | exact c0 | exact c1) (first
    | (go_at_call 159; refine hC.mono ?_; rintro e w2 ⟨rfl, c1, w3, hrun, hR⟩))
  all_goals
    clear c0 hC l0
    obtain ⟨c4, c5⟩ := c1
    go_wp2_with (at_delete; refine wpList_delete_run rfl _ _ 104 3 rfl _ _ _ w3 rfl rfl hrun ?_)
    go_ret
    exact ⟨rfl, hR⟩
set_option maxRecDepth 100000 in
set_option maxHeartbeats 4000000 in
theorem KN.end_one (h : KN w m H S q A) (ho : S.O 1 = some o) (code : Int) :
    Calls Tryz.prog 64 #[wp H.kb, .int .i64 1, .int .i64 code] w fun y w' => y = .returned (uer 6) ∧ ∃ A', KN w' m H S q A' ∧ Stp w w' A A' := by
  have c3 := h.1.c3
  have hr : runsJ S.P 1 = true := by rw [← h.2.run 1, ho]; rfl
  have hE0 : exitE S.P 1 = 6 := by unfold exitE; rw [hr, if_neg (by simp), if_pos rfl]
  have hX : Calls Tryz.prog 158 #[wp H.t, .int .i64 1, .int .i64 code] w fun y w' => y = .returned (uer 6) ∧ ∃ A', KN w' m H S q A' ∧ Stp w w' A A' := by
    refine (h.1.exitK 1 code (h.1.wfp ho)).mono ?_
    rintro y w1 ⟨rfl, A1, k1, st1⟩
    rw [if_neg (by rw [hE0]; omega)] at k1
    exact ⟨by rw [hE0, uev_ne (by omega)], A1, ⟨k1, h.2⟩, st1⟩
  clear h ho hr hE0
  go_enter Tryz.func64, Tryz.ntmps64
  go_wp2_with (go_at_call 158; refine hX.mono ?_; rintro e w1 ⟨rfl, hR⟩)
  go_ret
  exact ⟨rfl, hR⟩
/-- What Exit tells, and leaves. -/
def exitKE (p : Int) : Int := if p = 1 then 6 else 0
noncomputable def exitKS (S : KS) (p : Int) (o : Ow) (code : Int) : KS := if p = 1 then S else endKS S p o code
theorem KN.end_any (h : KN w m H S q A) (ho : S.O p = some o) (hq : q ≤ 200) (code : Int) :
    Calls Tryz.prog 64 #[wp H.kb, .int .i64 p, .int .i64 code] w fun y w' => y = .returned (uev (exitKE p)) ∧ ∃ A', KN w' m H (exitKS S p o code) q A' ∧ Stp w w' A A' := by
  unfold exitKE exitKS
  by_cases h1 : p = 1
  · subst h1
    rw [if_pos rfl, if_pos rfl, uev_ne (by omega)]
    exact h.end_one ho code
  · rw [if_neg h1, if_neg h1, uev_zero]
    exact h.end_yes ho hq h1 code
set_option maxRecDepth 100000 in
set_option maxHeartbeats 4000000 in
theorem KN.exit_yes (h : KN w m H S q A) (ho : S.O p = some o) (hq : q ≤ 200) (code : Int) :
    Calls Tryz.prog 20 #[wp H.kb, .int .i64 p, .int .i64 code] w fun y w' => y = .returned (uev (exitKE p)) ∧ ∃ A', KN w' m H (exitKS S p o code) q A' ∧ Stp w w' A A' := by
  have hF := h.1.find_yes ho
  have hE := h.end_any ho hq code
  generalize exitKS S p o code = S2 at *
  generalize exitKE p = E at *
  clear h ho
  go_enter Tryz.func20, Tryz.ntmps20
  go_wp2_with (first
    | (go_at_call 51; refine hF.mono ?_; rintro e w1 ⟨rfl, hw⟩; subst w1)
    | (go_at_call 64; refine hE.mono ?_; rintro e w1 ⟨rfl, hR⟩))
  go_ret
  exact ⟨rfl, hR⟩
end
end Go.Proofs.YtcfhanoekniaaaaGreatDoor

/- The statements' own fact: a page that a process writes. -/
import Derived.Test.YtcfhanoekniaaaaGreatDoorZWrite
import Derived.Test.YtcfhanoekniaaaaGreatDoorQAdd
import Derived.Test.YtcfhanoekniaaaaGreatDoorUNew
import Derived.Test.YtcfhanoekniaaaaGreatDoorVPg
import Derived.Test.YtcfhanoekniaaaaGreatDoorZNew2
namespace Go.Proofs.YtcfhanoekniaaaaGreatDoor
open Go.RowKit Go.Maps

section
variable {w w1 w2 : World} {m : Int} {A A' : Nat → Prop}
theorem Stp.toBelow (hb : Below w.heap.size w w1) (hA : ∀ i, A i → w.heap.size ≤ i) (st : Stp w1 w2 A A') : Below w.heap.size w w2 :=
  ⟨st.wt.os.trans hb.os, st.wt.tape.trans hb.tape, st.wt.output.trans hb.output, Nat.le_trans hb.size st.wt.size, fun i hi => by
    rw [st.wt.block i (Nat.lt_of_lt_of_le hi hb.size) (fun z => by have := hA i z; omega)]
    exact hb.block i hi⟩
theorem least_first : leastJ firstJ = 2 := leastJ_eq ⟨by omega, by unfold firstJ; rw [if_neg (by omega)], fun j h1 h2 => by
  have : j = 1 := by omega
  subst this; rfl⟩ (by omega)
theorem pids_first : (pidsJ firstJ).length = 1 := by decide
abbrev o1 : Ow := ⟨0, firstM, 0⟩
abbrev o2 : Ow := ⟨1, firstM, 0⟩
/-- What is there behind the fork. -/
noncomputable def keptS : KS := forkKS (firstS 4) 1 o1
theorem keptO : keptS.O 2 = some o2 := by
  show putO (firstS 4).O (leastJ firstJ) ⟨1, firstM, 0⟩ 2 = _
  rw [least_first]; rfl
theorem kept_map : mapKE keptS o2 0 2 3 = 0 := by
  have e : msJ keptS 1 = noP := rfl
  have e1 : mapE noP 0 2 3 = 0 := by decide +kernel
  unfold mapKE
  rw [e, if_neg (not_not_intro e1), if_pos]
  rw [show lenP noP = 0 from lenP_none]
  decide
noncomputable def keptS2 : KS := mapKS keptS o2 0 2 3
theorem keptS2_eq : keptS2 = keptS.space 1 P1 keptS.W := by
  unfold keptS2 mapKS
  rw [if_pos kept_map]
  have e : msJ keptS 1 = noP := rfl
  have e1 : mapE noP 0 2 3 = 0 := by decide +kernel
  have e1' : mapP noP 0 2 3 = P1 := by unfold mapP; rw [if_pos e1]; rfl
  rw [e, e1']
theorem keptMs2 : keptS2.Ms = [noP, P1] := by rw [keptS2_eq]; rfl
theorem tot2 {x : Int} (hx : 0 ≤ x) (P : PM) : totM [noP, P] x = sh P x := by
  unfold totM
  simp only [List.map_cons, List.map_nil, List.sum_cons, List.sum_nil]
  rw [show sh noP x = 0 from sh_empty hx]; omega
theorem kept_store {went : List Int} {er : Int} {S' : KS} (h : StoreK 2 0 1 5 keptS2 went er S') : went = [] ∧ er = 0 ∧ ∃ f : Nat, f < 4 ∧ ∃ D2 : Nat → Nat → Int, D2 f 1 = 5 ∧ S' = keptS2.space 1 (putP P1 0 (3, (f : Int))) D2 := by
  have hO : keptS2.O 2 = some o2 := by rw [keptS2_eq]; exact keptO
  have hm : msJ keptS2 1 = P1 := by unfold msJ; rw [keptMs2]; rfl
  have ht : ∀ x, 0 ≤ x → totM keptS2.Ms x = 0 := fun x hx => by rw [keptMs2, tot2 hx, P1_sh hx]
  have hn : keptS2.n = 4 := by rw [keptS2_eq]; rfl
  have hz : ∀ x, 0 ≤ x → sh P1 x + othM keptS2 1 x = 0 := fun x hx => by
    unfold othM; rw [ht x hx, P1_sh hx, Nat.zero_sub]
  have hs : ∀ {er P' D'}, StR keptS2.n (msJ keptS2 1) (othM keptS2 1) keptS2.W 0 1 5 er P' D' → ∃ f : Nat, f < 4 ∧ er = 0 ∧ P' = putP P1 0 (3, (f : Int)) ∧ D' f 1 = 5 := fun {er P' D'} hr => by
    rw [hm, hn] at hr
    rcases hr with ⟨h, _⟩ | ⟨_, h, _⟩ | ⟨_, _, h, _⟩ | ⟨_, _, f, hf1, hf2, h4, h5, h6⟩
    · exact absurd (useE_3 P1_0).1 h
    · exact absurd (P1_frm 0) h
    · exfalso
      rw [used_congr (t' := fun _ => 0) hz, used_zero] at h; omega
    · exact ⟨f, hf1, h4, by rw [h5, P1_pg], by rw [h6]; simp [upd]⟩
  cases h with
  | done ho hr h12 =>
    rw [hO] at ho
    cases ho
    obtain ⟨f, h1, rfl, rfl, h4⟩ := hs hr
    exact ⟨rfl, rfl, f, h1, _, h4, rfl⟩
  | nobody ho hr hv =>
    rw [hO] at ho
    cases ho
    obtain ⟨f, h1, h2, _⟩ := hs hr
    omega
  | self ho hr hv he =>
    rw [hO] at ho
    cases ho
    obtain ⟨f, h1, h2, _⟩ := hs hr
    omega
  | goes ho hr =>
    rw [hO] at ho
    cases ho
    obtain ⟨f, h1, h2, _⟩ := hs hr
    omega
theorem left_one {f : Nat} (hf : f < 4) {S : KS} (hn : S.n = 4) (hM : S.Ms = [noP, putP P1 0 (3, (f : Int))]) : S.n - used (totM S.Ms) S.n = 3 := by
  rw [hn]
  have h0 : used (fun _ => 0) 4 = 0 := used_zero 4
  have hf0 : (0 : Int) ≤ (f : Int) := by omega
  have ht : ∀ x, 0 ≤ x → totM S.Ms x = if (f : Int) = x then 1 else 0 := fun x hx => by rw [hM, tot2 hx, P2_sh hf0 hx]
  rw [used_more (t := fun _ => 0) hf rfl (by rw [ht _ hf0, if_pos rfl]; decide) (fun x hx hne => by rw [ht x hx, if_neg (fun h => hne h.symm)]), h0]
theorem left_all {S : KS} (hn : S.n = 4) (hM : S.Ms = [noP, noP]) : S.n - used (totM S.Ms) S.n = 4 := by
  rw [hn, used_congr (t' := fun _ => 0) (fun x hx => by rw [hM, tot2 hx]; exact sh_empty hx), used_zero]
/-- One call behind the other. -/
theorem kept_chain {ok : Bool} (w : World) (hm : w.cell? ⟨4, 0, none⟩ = some (.int .i64 m)) (he : w.cell? ⟨0, 0, none⟩ = some errT) (ht : TabH ok w) :
    Calls Tryz.prog 12 #[.int .i64 4] w fun y w1 => ∃ kb, y = .returned (.tuple #[wp kb, .nilIface]) ∧ Calls Tryz.prog 14 #[wp kb, .int .i64 1] w1 fun y w2 => y = .returned (.tuple #[.int .i64 2, .nilIface]) ∧ Calls Tryz.prog 45 #[wp kb, .int .i64 2, .int .i64 0, .int .i64 2, .int .i64 3] w2 fun y w3 => y = .returned .nilIface ∧ Calls Tryz.prog 42 #[wp kb, .int .i64 2, .int .i64 0, .int .i64 1, .int .i64 5] w3 fun y w4 => ∃ ad cap, y = .returned (.tuple #[.slice ad 0 cap, .nilIface]) ∧ Calls Tryz.prog 44 #[wp kb, .int .i64 2, .int .i64 0, .int .i64 1] w4 fun y w5 => y = .returned (.tuple #[.int .i64 5, .nilIface]) ∧ Calls Tryz.prog 39 #[wp kb] w5 fun y w6 => y = .returned (.int .i64 3) ∧ Calls Tryz.prog 20 #[wp kb, .int .i64 2, .int .i64 0] w6 fun y w7 => y = .returned .nilIface ∧ Calls Tryz.prog 39 #[wp kb] w7 fun y w8 => y = .returned (.int .i64 4) ∧ Below w.heap.size w w8 := by
  refine (kernelNew_ok w 4 (by omega) (by omega) hm he ht).mono ?_
  rintro y w1 ⟨H, A, rfl, k1, hA, b1, _⟩
  refine ⟨H.kb, rfl, (k1.fork_go (p := 1) (o := o1) rfl (by omega) (by show (pidsJ firstJ).length < 24; rw [pids_first]; omega)).mono ?_⟩
  rintro y w2 ⟨rfl, H', A2, ⟨hkb, _⟩, k2, st2⟩
  have e2 : leastJ (firstS 4).P = 2 := least_first
  rw [e2, ← hkb]
  have k2 : KN w2 m H' keptS 1 A2 := k2
  refine ⟨rfl, (k2.map_yes keptO 0 2 3 (by omega)).mono ?_⟩
  rintro y w3 ⟨rfl, A3, k3, st3⟩
  rw [kept_map, uev_zero]
  have k3 : KN w3 m H' keptS2 1 A3 := k3
  have hO : keptS2.O 2 = some o2 := by rw [keptS2_eq]; exact keptO
  refine ⟨rfl, (k3.store_yes hO (by omega) 0 1 5 (by kernel_rfl)).mono ?_⟩
  rintro y w4 ⟨vw, er, rfl, went, S', A4, hS, hw, k4, st4⟩
  obtain ⟨rfl, rfl, f, hf, D2, hD, rfl⟩ := kept_store hS
  obtain ⟨ad, cap, rfl⟩ : ∃ ad cap, vw = .slice ad 0 cap := by
    rcases hw.row.2 with ⟨e, _⟩ | ⟨g, cap, cur, e, _⟩
    · exact ⟨none, 0, e⟩
    · exact ⟨_, cap, e⟩
  have hms : (keptS2.space 1 (putP P1 0 (3, (f : Int))) D2).Ms = [noP, putP P1 0 (3, (f : Int))] := by
    show keptS2.Ms.set 1 _ = _
    rw [keptMs2]; rfl
  have hn4 : (keptS2.space 1 (putP P1 0 (3, (f : Int))) D2).n = 4 := by
    show keptS2.n = 4
    rw [keptS2_eq]; rfl
  have hm4 : msJ (keptS2.space 1 (putP P1 0 (3, (f : Int))) D2) 1 = putP P1 0 (3, (f : Int)) := by unfold msJ; rw [hms]; rfl
  have hL := k4.1.load_yes (p := 2) (o := o2) hO 0 1 (by kernel_rfl)
  have hu := (useE_3 (P2_0 (f : Int))).2
  have hv : loadV (msJ (keptS2.space 1 (putP P1 0 (3, (f : Int))) D2) o2.j) (keptS2.space 1 (putP P1 0 (3, (f : Int))) D2).W 0 1 = 5 := by
    show loadV (msJ (keptS2.space 1 (putP P1 0 (3, (f : Int))) D2) 1) D2 0 1 = 5
    rw [hm4]
    unfold loadV
    rw [if_pos hu]
    unfold wd
    rw [frm_some (P2_0 (f : Int)), if_neg (by simp only; omega)]
    simpa using hD
  have hu' : useE (msJ (keptS2.space 1 (putP P1 0 (3, (f : Int))) D2) o2.j) 0 1 1 = 0 := by
    show useE (msJ (keptS2.space 1 (putP P1 0 (3, (f : Int))) D2) 1) 0 1 1 = 0
    rw [hm4]; exact hu
  rw [hv, hu', uev_zero] at hL
  refine ⟨ad, cap, rfl, hL.mono ?_⟩
  rintro y w5 ⟨rfl, b5⟩
  have k5 := k4.below b5
  have h3 := k5.1.left
  rw [left_one hf hn4 hms] at h3
  refine ⟨rfl, h3.mono ?_⟩
  rintro y w6 ⟨rfl, rfl⟩
  refine ⟨rfl, (k5.exit_yes (p := 2) (o := o2) hO (by omega) 0).mono ?_⟩
  rintro y w7 ⟨rfl, A7, k7, st7⟩
  have e7 : exitKS (keptS2.space 1 (putP P1 0 (3, (f : Int))) D2) 2 o2 0 = endKS (keptS2.space 1 (putP P1 0 (3, (f : Int))) D2) 2 o2 0 := if_neg (by omega)
  rw [e7] at k7
  have h4 := k7.1.left
  have hms7 : (endKS (keptS2.space 1 (putP P1 0 (3, (f : Int))) D2) 2 o2 0).Ms = [noP, noP] := by
    show (keptS2.space 1 (putP P1 0 (3, (f : Int))) D2).Ms.set 1 noP = _
    rw [hms]; rfl
  rw [left_all (S := endKS (keptS2.space 1 (putP P1 0 (3, (f : Int))) D2) 2 o2 0) hn4 hms7] at h4
  refine ⟨rfl, h4.mono ?_⟩
  rintro y w8 ⟨rfl, rfl⟩
  exact ⟨rfl, Stp.toBelow b1 hA ((((st2.trans st3).trans st4).trans (.below b5)).trans st7)⟩
set_option maxRecDepth 100000 in
set_option maxHeartbeats 4000000 in
theorem kept_ok {ok : Bool} (w : World) (hm : w.cell? ⟨4, 0, none⟩ = some (.int .i64 m)) (he : w.cell? ⟨0, 0, none⟩ = some errT) (ht : TabH ok w) :
    Calls Tryz.prog 11 #[] w fun e w' => e = .returned (.bool true) ∧ Below w.heap.size w w' := by
  have ch := kept_chain w hm he ht
  clear hm he ht
  go_enter Tryz.func11, Tryz.ntmps11
  go_wp2_with (first
    | (go_at_call 39; refine c7.mono ?_; rintro e w8 ⟨rfl, hR⟩)
    | (go_at_call 12; refine ch.mono ?_; rintro e w1 ⟨kb, rfl, c1⟩)
    | (go_at_call 14; refine c1.mono ?_; rintro e w2 ⟨rfl, c2⟩)
    | (go_at_call 45; refine c2.mono ?_; rintro e w3 ⟨rfl, c3⟩)
    | (go_at_call 42; refine c3.mono ?_; rintro e w4 ⟨ad, cap, rfl, c4⟩)
    | (go_at_call 44; refine c4.mono ?_; rintro e w5 ⟨rfl, c5⟩)
    | (go_at_call 39; refine c5.mono ?_; rintro e w6 ⟨rfl, c6⟩)
    | (go_at_call 20; refine c6.mono ?_; rintro e w7 ⟨rfl, c7⟩))
  go_ret
  exact ⟨rfl, hR⟩
end
end Go.Proofs.YtcfhanoekniaaaaGreatDoor

namespace Go.Proofs.YtcfhanoekniaaaaGreatDoor
open Go.RowKit Go.Maps

/-- Both ends are open: how many numbers are of each, the bytes between. -/
def dT (a b : Int) (B : List UInt8) : DS := ⟨nullT, fun i => if i = 3 then some ⟨3, 2, 0, 1, 0⟩ else if i = 2 then some ⟨2, 1, 0, 1, 0⟩ else none, fun i => if i = 3 then some b else if i = 2 then some a else none, fun i => if i = 1 then some (B, 1, 1) else none, 3⟩
/-- The one that says has ended. -/
def dZ (B : List UInt8) : DS := ⟨nullT, fun i => if i = 2 then some ⟨2, 1, 0, 1, 0⟩ else none, fun i => if i = 2 then some 1 else none, fun i => if i = 1 then some (B, 1, 0) else none, 3⟩
abbrev tA : Ns := [(2, false), (3, false), (0, false), (0, false), (0, false), (0, false), (0, false), (0, false)]
abbrev tB : Ns := [(0, false), (3, false), (0, false), (0, false), (0, false), (0, false), (0, false), (0, false)]
abbrev tC9 : Ns := [(2, false), (0, false), (0, false), (0, false), (0, false), (0, false), (0, false), (0, false)]
noncomputable def tkS (D : DS) (Ts : List Ns) : KS := ⟨4, forkP firstJ 1 2, D, Ts, [noP, noP], fun _ _ => 0, putO (firstS 4).O 2 o2⟩
section
variable {w w' w0 : World} {m : Int} {H : KH} {S : KS} {U : Nat → Nat → Int} {q q' : Nat} {A : Nat → Prop} {B s : List UInt8} {kb : Nat} {D : DS} {Ts : List Ns}
theorem KX.lower (h : KX w m H S U q' A) (hi : Inv S.D S.Ts (2 * q)) (hn : S.D.nx ≤ 3 * (q : Int)) (hf : S.Ts.length ≤ q + 1) : KX w m H S U q A := by
  obtain ⟨G, k, e⟩ := h
  exact ⟨G, { k with kd := { k.kd with inv := hi }, nx := hn, few := hf }, e⟩
theorem tk_pipe : pipeD (noneD nullT) = dT 1 1 [] := rfl
theorem tk_pipeN : pipeN (noneD nullT) zeroN = tA := by decide
theorem tk_fork : forkD (dT 1 1 []) tA = dT 2 2 [] := by
  show incR (incR (dT 1 1 []) 2) 3 = _
  unfold incR dT
  simp only [DS.mk.injEq, true_and, and_true]
  funext i
  by_cases e3 : i = 3
  · simp [e3]
  · by_cases e2 : i = 2
    · simp [e2]
    · simp [e3, e2]
theorem tk_close1 : closeD (dT 2 2 []) tA 0 = dT 1 2 [] := by
  unfold closeD
  rw [if_pos (by decide)]
  show closeK (dT 2 2 []) 2 = _
  unfold closeK
  show (if (0 : Int) < 2 - 1 then { dT 2 2 [] with R := fun i => if i = 2 then some (2 - 1) else (dT 2 2 []).R i } else _) = _
  rw [if_pos (by omega)]
  unfold dT
  simp only [DS.mk.injEq, true_and, and_true]
  funext i
  by_cases e3 : i = 3
  · simp [e3]
  · by_cases e2 : i = 2
    · simp [e2]
    · simp [e3, e2]
theorem tk_close2 : closeD (dT 1 2 []) tA 1 = dT 1 1 [] := by
  unfold closeD
  rw [if_pos (by decide)]
  show closeK (dT 1 2 []) 3 = _
  unfold closeK
  show (if (0 : Int) < 2 - 1 then { dT 1 2 [] with R := fun i => if i = 3 then some (2 - 1) else (dT 1 2 []).R i } else _) = _
  rw [if_pos (by omega)]
  unfold dT
  simp only [DS.mk.injEq, true_and, and_true]
  funext i
  by_cases e3 : i = 3
  · simp [e3]
  · simp [e3]
theorem tk_close3 : closeD (dT 1 1 B) tB 1 = dZ B := by
  unfold closeD
  rw [if_pos (by decide)]
  show closeK (dT 1 1 B) 3 = _
  unfold closeK
  show (if (0 : Int) < 1 - 1 then _ else if (3 : Int) = 1 then _ else ({ T := nullT, E := fun i => if i = 3 then none else (dT 1 1 B).E i, R := fun i => if i = 3 then none else if i = 3 then some (1 - 1) else (dT 1 1 B).R i, P := fun i => if i = 1 then some (turnP (((dT 1 1 B).P 1).getD ([], 0, 0)) 3) else (dT 1 1 B).P i, nx := 3 } : DS)) = _
  rw [if_neg (by omega), if_neg (by omega)]
  unfold dT dZ
  simp only [DS.mk.injEq, true_and, and_true]
  refine ⟨?_, ?_, ?_⟩
  · funext i
    by_cases e3 : i = 3
    · simp [e3]
    · simp [e3]
  · funext i
    by_cases e3 : i = 3
    · simp [e3]
    · simp [e3]
  · funext i
    by_cases e1 : i = 1
    · subst e1; rfl
    · simp [e1]
theorem tk_write (_hs : B.length ≤ 16) : writeO (dT 1 1 B) tB 1 s 200 = ((wrN 1 B s : Int), wrE 1 B s, dT 1 1 (wrB 1 B s)) := by
  have h := writeO_end (D := dT 1 1 B) (N := tB) (i := 1) (e := ⟨3, 2, 0, 1, 0⟩) (s := s) (a := 200) (by omega) (by simp) (by simp) rfl (by simp) (by simp) (p := (B, 1, 1)) rfl
  refine Eq.trans h ?_
  refine Prod.ext rfl (Prod.ext rfl ?_)
  unfold dT
  simp only [DS.mk.injEq, true_and, and_true]
  funext i
  by_cases e1 : i = 1
  · simp [e1]
  · simp [e1]
theorem tk_read (a : Int) : readO (dT 1 1 B) tC9 0 a = (B.take a.toNat, rdE 1 B a, dT 1 1 (B.drop a.toNat)) := by
  refine Eq.trans (readO_end (D := dT 1 1 B) (N := tC9) (i := 0) (e := ⟨2, 1, 0, 1, 0⟩) (a := a) (by omega) (by simp) (by simp) rfl (by simp) (by simp) (p := (B, 1, 1)) rfl) ?_
  refine Prod.ext rfl (Prod.ext rfl ?_)
  unfold dT
  simp only [DS.mk.injEq, true_and, and_true]
  funext i
  by_cases e1 : i = 1
  · simp [e1]
  · simp [e1]
theorem tk_end (a : Int) (ha : 0 < a) : (readO (dZ []) tC9 0 a).1 = [] ∧ (readO (dZ []) tC9 0 a).2.1 = 0 := by
  rw [show (0 : Int) = ((0 : Nat) : Int) from rfl, readO_end (D := dZ []) (N := tC9) (i := 0) (e := ⟨2, 1, 0, 1, 0⟩) (by omega) (by simp) (by simp) rfl (by simp) (by simp) (p := ([], 1, 0)) rfl]
  refine ⟨by simp, ?_⟩
  show rdE 0 [] a = 0
  unfold rdE
  rw [if_neg (by omega), if_neg (by omega), if_neg (fun e => by have := e.2; omega)]
theorem tk_O1 : (tkS D Ts).O 1 = some o1 := rfl
theorem tk_O2 : (tkS D Ts).O 2 = some o2 := rfl
/-- The two of them, newer than w0; the bytes between. -/
def TK (w0 w : World) (m : Int) (kb : Nat) (B : List UInt8) : Prop := ∃ H A, H.kb = kb ∧ KN w m H (tkS (dT 1 1 B) [tB, tC9]) 2 A ∧ (∀ i, A i → w0.heap.size ≤ i) ∧ Below w0.heap.size w0 w
theorem Stp.far {A A' : Nat → Prop} (hb : Below w0.heap.size w0 w) (hA : ∀ i, A i → w0.heap.size ≤ i) (st : Stp w w' A A') : ∀ i, A' i → w0.heap.size ≤ i := fun i hi => by
  rcases st.own i hi with z | z
  · exact hA i z
  · exact Nat.le_trans hb.size z
theorem TK.few (h : TK w0 w m kb B) : B.length ≤ 16 := by
  obtain ⟨H, A, _, k, _⟩ := h
  obtain ⟨_, _, p, e, h1, _⟩ := (k.1.inv.core.ent 3 ⟨3, 2, 0, 1, 0⟩ rfl).pipe (by simp)
  have e : some (B, (1 : Int), (1 : Int)) = some p := e
  cases e
  exact h1
theorem TK.bel (h : TK w0 w m kb B) : Below w0.heap.size w0 w := by
  obtain ⟨_, _, _, _, _, b⟩ := h
  exact b
theorem TK.below (h : TK w0 w m kb B) (b : Below w.heap.size w w') : TK w0 w' m kb B := by
  obtain ⟨H, A, e, k, hA, hb⟩ := h
  exact ⟨H, A, e, k.below b, hA, hb.trans (b.mono hb.size)⟩
theorem TK.base {V : World} (h : TK V w m kb B) (b : Below w0.heap.size w0 V) : TK w0 w m kb B := by
  obtain ⟨H, A, e, k, hA, hb⟩ := h
  exact ⟨H, A, e, k, fun i hi => Nat.le_trans b.size (hA i hi), b.trans (hb.mono b.size)⟩
theorem TK.er (h : TK w0 w m kb B) : w.cell? ⟨0, 0, none⟩ = some errT := by
  obtain ⟨H, A, e, k, hA, hb⟩ := h
  exact k.1.er
theorem TK.write (h : TK w0 w m kb B) (s : List UInt8) (hs : s.length < 100000) :
    Calls Tryz.prog 16 #[wp kb, .int .i64 1, .int .i64 1, tx s] w fun y w' => y = .returned (.tuple #[.int .i64 (wrN 1 B s : Nat), uev (wrE 1 B s)]) ∧ TK w0 w' m kb (wrB 1 B s) := by
  have hB := h.few
  obtain ⟨H, A, rfl, k, hA, hb⟩ := h
  have e : wrO (tkS (dT 1 1 B) [tB, tC9]) o1 1 s = ((wrN 1 B s : Int), wrE 1 B s, dT 1 1 (wrB 1 B s)) := tk_write hB
  refine (k.write_yes (o := o1) tk_O1 1 s hs).mono ?_
  rintro y w' ⟨rfl, A', k', st⟩
  have eS : writeKS (tkS (dT 1 1 B) [tB, tC9]) 1 o1 1 s = tkS (dT 1 1 (wrB 1 B s)) [tB, tC9] := by
    unfold writeKS
    rw [e]
    rw [if_neg]
    · rfl
    · show ¬ wrE 1 B s = 14
      unfold wrE
      rw [if_neg (by omega)]
      split
      · omega
      · split <;> omega
  rw [eS] at k'
  rw [e]
  have hi : Inv (dT 1 1 (wrB 1 B s)) [tB, tC9] (2 * 2) := by
    have := k.1.inv.putP (p := 1) (x := (B, 1, 1)) (y := (wrB 1 B s, 1, 1)) rfl ⟨wrB_len 1 B s hB, by simp, by simp, by simp, by simp⟩
    have e9 : ({ dT 1 1 B with P := fun i => if i = 1 then some (wrB 1 B s, 1, 1) else (dT 1 1 B).P i } : DS) = dT 1 1 (wrB 1 B s) := by
      unfold dT
      simp only [DS.mk.injEq, true_and, and_true]
      funext i
      by_cases e1 : i = 1
      · simp [e1]
      · simp [e1]
    rw [← e9]
    exact this
  exact ⟨rfl, H, A', rfl, ⟨k'.1.lower hi (by show (3 : Int) ≤ _; omega) (by show 2 ≤ 3; omega), k'.2⟩, Stp.far hb hA st, Stp.toBelow hb hA st⟩
theorem TK.read (h : TK w0 w m kb B) (a : Int) :
    Calls Tryz.prog 19 #[wp kb, .int .i64 2, .int .i64 0, .int .i64 a] w fun y w' => y = .returned (.tuple #[tx (B.take a.toNat), uev (rdE 1 B a)]) ∧ TK w0 w' m kb (B.drop a.toNat) := by
  obtain ⟨H, A, rfl, k, hA, hb⟩ := h
  refine (k.read_yes (o := o2) tk_O2 0 a).mono ?_
  rintro y w' ⟨rfl, A', k', st⟩
  have e : readO (tkS (dT 1 1 B) [tB, tC9]).D (tsJ (tkS (dT 1 1 B) [tB, tC9]) o2.j) 0 a = (B.take a.toNat, rdE 1 B a, dT 1 1 (B.drop a.toNat)) := tk_read a
  rw [e] at k' ⊢
  exact ⟨rfl, H, A', rfl, k', Stp.far hb hA st, Stp.toBelow hb hA st⟩
/-- What stands behind the words: the end of the one, the end of the other. -/
theorem TK.ends (h : TK w0 w m kb []) :
    Calls Tryz.prog 15 #[wp kb, .int .i64 1, .int .i64 1] w fun y w1 => y = .returned .nilIface ∧ Calls Tryz.prog 19 #[wp kb, .int .i64 2, .int .i64 0, .int .i64 1] w1 fun y w2 => y = .returned (.tuple #[tx [], .nilIface]) ∧ Calls Tryz.prog 20 #[wp kb, .int .i64 2, .int .i64 0] w2 fun y w3 => y = .returned .nilIface ∧ Calls Tryz.prog 21 #[wp kb] w3 fun y w4 => y = .returned (.int .i64 0) ∧ Below w0.heap.size w0 w4 := by
  obtain ⟨H, A, rfl, k, hA, hb⟩ := h
  refine (k.close_yes (o := o1) tk_O1 (by omega) 1).mono ?_
  rintro y w1 ⟨rfl, A1, k1, st1⟩
  have e1 : closeKS (tkS (dT 1 1 []) [tB, tC9]) o1 1 = tkS (dZ []) [zeroN, tC9] := by
    unfold closeKS
    have e1 : closeD (tkS (dT 1 1 []) [tB, tC9]).D (tsJ (tkS (dT 1 1 []) [tB, tC9]) o1.j) 1 = dZ [] := tk_close3
    have e2 : closeN (tsJ (tkS (dT 1 1 []) [tB, tC9]) o1.j) 1 = zeroN := by decide
    rw [e1, e2]; rfl
  rw [e1] at k1
  refine ⟨congrArg (fun z => Ending.returned (uev z)) (if_pos (show hasN tB 1 = true by decide)), (k1.read_yes (o := o2) tk_O2 0 1).mono ?_⟩
  rintro y w2 ⟨rfl, A2, k2, st2⟩
  obtain ⟨e3, e4⟩ := tk_end 1 (by omega)
  have e3' : (readO (tkS (dZ []) [zeroN, tC9]).D (tsJ (tkS (dZ []) [zeroN, tC9]) o2.j) 0 1).1 = [] := e3
  have e4' : (readO (tkS (dZ []) [zeroN, tC9]).D (tsJ (tkS (dZ []) [zeroN, tC9]) o2.j) 0 1).2.1 = 0 := e4
  rw [e3', e4']
  refine ⟨rfl, (k2.exit_yes (p := 2) (o := o2) rfl (by omega) 0).mono ?_⟩
  rintro y w3 ⟨rfl, A3, k3, st3⟩
  have e5 : exitKS ((tkS (dZ []) [zeroN, tC9]).files (readO (tkS (dZ []) [zeroN, tC9]).D (tsJ (tkS (dZ []) [zeroN, tC9]) o2.j) 0 1).2.2 o2.j (tsJ (tkS (dZ []) [zeroN, tC9]) o2.j)) 2 o2 0 = endKS ((tkS (dZ []) [zeroN, tC9]).files (readO (tkS (dZ []) [zeroN, tC9]).D (tsJ (tkS (dZ []) [zeroN, tC9]) o2.j) 0 1).2.2 o2.j (tsJ (tkS (dZ []) [zeroN, tC9]) o2.j)) 2 o2 0 := if_neg (by omega)
  rw [e5] at k3
  generalize hS : endKS ((tkS (dZ []) [zeroN, tC9]).files (readO (tkS (dZ []) [zeroN, tC9]).D (tsJ (tkS (dZ []) [zeroN, tC9]) o2.j) 0 1).2.2 o2.j (tsJ (tkS (dZ []) [zeroN, tC9]) o2.j)) 2 o2 0 = S9 at k3
  have hT : S9.Ts = [zeroN, zeroN] := by rw [← hS]; rfl
  have hE : ∀ x, S9.D.E x = none := fun x => by
    have hi := k3.1.inv
    by_cases h0 : 0 < x
    · have h1 := hi.core.cE x h0
      rw [hT] at h1
      have h2 : cntS x [zeroN, zeroN] = 0 := by
        have : x ≠ 0 := by omega
        simp [cntS, cntN, zeroN, List.replicate, Ne.symm this]
      rw [h2] at h1
      cases e : S9.D.E x with
      | none => rfl
      | some z => rw [e] at h1; exact absurd (h1.1 rfl) (by omega)
    · cases e : S9.D.E x with
      | none => rfl
      | some z => exact absurd (hi.core.giv.e x (by rw [e]; rfl)).1 h0
  refine ⟨rfl, (k3.1.open_ok (IsN.nil hE)).mono ?_⟩
  rintro y w4 ⟨rfl, rfl⟩
  exact ⟨rfl, Stp.toBelow hb hA ((st1.trans st2).trans st3)⟩
/-- What stands ahead of them. -/
theorem talk_first {ok : Bool} (w : World) (hm : w.cell? ⟨4, 0, none⟩ = some (.int .i64 m)) (he : w.cell? ⟨0, 0, none⟩ = some errT) (ht : TabH ok w) :
    Calls Tryz.prog 12 #[.int .i64 4] w fun y w1 => ∃ kb, y = .returned (.tuple #[wp kb, .nilIface]) ∧ Calls Tryz.prog 13 #[wp kb, .int .i64 1] w1 fun y w2 => y = .returned (.tuple #[.int .i64 0, .int .i64 1, .nilIface]) ∧ Calls Tryz.prog 14 #[wp kb, .int .i64 1] w2 fun y w3 => y = .returned (.tuple #[.int .i64 2, .nilIface]) ∧ Calls Tryz.prog 15 #[wp kb, .int .i64 1, .int .i64 0] w3 fun y w4 => y = .returned .nilIface ∧ Calls Tryz.prog 15 #[wp kb, .int .i64 2, .int .i64 1] w4 fun y w5 => y = .returned .nilIface ∧ TK w w5 m kb [] := by
  refine (kernelNew_ok w 4 (by omega) (by omega) hm he ht).mono ?_
  rintro y w1 ⟨H, A, rfl, k1, hA, b1, _⟩
  have hF : fitsF (firstS 4) o1 2 := by unfold fitsF; decide
  refine ⟨H.kb, rfl, (k1.pipe_yes (p := 1) (o := o1) rfl (by omega) (n := 0) (IsN.nil fun _ => rfl)).mono ?_⟩
  rintro y w2 ⟨x, y9, c, S', rfl, hR, A2, k2, st2⟩
  obtain ⟨rfl, rfl, rfl, rfl⟩ : x = 0 ∧ y9 = 1 ∧ c = 0 ∧ S' = (firstS 4).files (dT 1 1 []) 0 tA := by
    rcases hR with ⟨h, _⟩ | ⟨_, D', N', hP, rfl⟩
    · exact absurd hF h
    · rcases hP with ⟨h, _⟩ | ⟨_, rfl, rfl, rfl, rfl, rfl⟩
      · exfalso
        rcases h with h | h
        · have : usedN (tsJ (firstS 4) o1.j) = 0 := by decide
          omega
        · omega
      · refine ⟨by decide, by decide, rfl, ?_⟩
        have e1 : pipeD (firstS 4).D = dT 1 1 [] := tk_pipe
        have e2 : pipeN (firstS 4).D (tsJ (firstS 4) o1.j) = tA := tk_pipeN
        rw [e1, e2]
  refine ⟨rfl, (k2.fork_go (p := 1) (o := o1) rfl (by omega) (by show (pidsJ firstJ).length < 24; rw [pids_first]; omega)).mono ?_⟩
  rintro y w3 ⟨rfl, H', A3, ⟨hkb, _⟩, k3, st3⟩
  have e3 : leastJ ((firstS 4).files (dT 1 1 []) 0 tA).P = 2 := least_first
  have eS : forkKS ((firstS 4).files (dT 1 1 []) 0 tA) 1 o1 = tkS (dT 2 2 []) [tA, tA] := by
    unfold forkKS
    rw [e3]
    unfold KS.born
    have e4 : forkD (((firstS 4).files (dT 1 1 []) 0 tA).procs (forkP ((firstS 4).files (dT 1 1 []) 0 tA).P 1 2)).D (tsJ (((firstS 4).files (dT 1 1 []) 0 tA).procs (forkP ((firstS 4).files (dT 1 1 []) 0 tA).P 1 2)) o1.j) = dT 2 2 [] := tk_fork
    rw [e4]; rfl
  rw [eS] at k3
  rw [e3, ← hkb]
  refine ⟨rfl, (k3.close_yes (p := 1) (o := o1) tk_O1 (by omega) 0).mono ?_⟩
  rintro y w4 ⟨rfl, A4, k4, st4⟩
  have e4 : closeKS (tkS (dT 2 2 []) [tA, tA]) o1 0 = tkS (dT 1 2 []) [tB, tA] := by
    unfold closeKS
    have e1 : closeD (tkS (dT 2 2 []) [tA, tA]).D (tsJ (tkS (dT 2 2 []) [tA, tA]) o1.j) 0 = dT 1 2 [] := tk_close1
    have e2 : closeN (tsJ (tkS (dT 2 2 []) [tA, tA]) o1.j) 0 = tB := by decide
    rw [e1, e2]; rfl
  rw [e4] at k4
  refine ⟨congrArg (fun z => Ending.returned (uev z)) (if_pos (show hasN tA 0 = true by decide)), (k4.close_yes (p := 2) (o := o2) tk_O2 (by omega) 1).mono ?_⟩
  rintro y w5 ⟨rfl, A5, k5, st5⟩
  have e5 : closeKS (tkS (dT 1 2 []) [tB, tA]) o2 1 = tkS (dT 1 1 []) [tB, tC9] := by
    unfold closeKS
    have e1 : closeD (tkS (dT 1 2 []) [tB, tA]).D (tsJ (tkS (dT 1 2 []) [tB, tA]) o2.j) 1 = dT 1 1 [] := tk_close2
    have e2 : closeN (tsJ (tkS (dT 1 2 []) [tB, tA]) o2.j) 1 = tC9 := by decide
    rw [e1, e2]; rfl
  rw [e5] at k5
  have st := ((st2.trans st3).trans st4).trans st5
  exact ⟨congrArg (fun z => Ending.returned (uev z)) (if_pos (show hasN tA 1 = true by decide)), H', A5, rfl, k5, Stp.far b1 hA st, Stp.toBelow b1 hA st⟩
end
end Go.Proofs.YtcfhanoekniaaaaGreatDoor

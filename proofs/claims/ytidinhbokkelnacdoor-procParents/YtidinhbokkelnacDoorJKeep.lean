/- ProcParents: the plain part; slices.Equal and Contains at numbers; life. -/
import Derived.Test.YtidinhbokkelnacDoorJOne
import Derived.Deep.CutBlock
import Derived.Deep.DeepCutAuto
namespace Go.Proofs.YtidinhbokkelnacDoor
open Go.RowKit Go.Maps Go.Sort

theorem pids_same {P P' : Ps} (h : ∀ n, (P' n).isSome = (P n).isSome) : pidsJ P' = pidsJ P := by
  unfold pidsJ; congr 1; funext n; exact h n
theorem exit_same (P : Ps) (n k : Int) : pidsJ (exitP P n k) = pidsJ P := pids_same (fun i => by unfold exitP; rw [Option.isSome_map])
theorem on_same (P : Ps) (n : Int) (f : Pr → Pr) : pidsJ (onJ P n f) = pidsJ P := pids_same (fun i => onJ_isSome f i)
theorem pids_one {P : Ps} (h : JOk P) : ∃ R, pidsJ P = 1 :: R := by
  obtain ⟨p, e, _⟩ := h.one
  have hm : (1 : Int) ∈ pidsJ P := h.pids.2 (by rw [e]; rfl)
  have hr := pidsJ_rising P
  cases hp : pidsJ P with
  | nil => rw [hp] at hm; cases hm
  | cons x R =>
    rw [hp] at hm hr
    rcases List.mem_cons.1 hm with e1 | e1
    · exact ⟨R, by rw [e1]⟩
    · exfalso
      have h1 := (List.pairwise_cons.1 hr).1 1 e1
      have h2 : x ∈ pidsJ P := by rw [hp]; exact List.mem_cons_self
      obtain ⟨q, hq⟩ := Option.isSome_iff_exists.1 (h.pids.1 h2)
      have := h.key x q hq
      omega
/-- All but 1 are dead, and 1's. -/
def AllDead (P : Ps) : Prop := ∀ n p, P n = some p → n ≠ 1 → p.state = 2 ∧ p.parent = 1
theorem AllDead.of {P : Ps} (h : JOk P) (hd : ∀ n p, P n = some p → n ≠ 1 → p.state = 2) : AllDead P := fun n p e hn => by
  refine ⟨hd n p e hn, ?_⟩
  obtain ⟨q, hq, hs⟩ := runsJ_iff.1 (h.par n p e hn).1
  by_cases h1 : p.parent = 1
  · exact h1
  · have := hd _ q hq h1; omega
theorem wait_next {P : Ps} {r : Int} {R : List Int} (h : JOk P) (hd : AllDead P) (hp : pidsJ P = 1 :: r :: R) : (waitO P 1).1 = r ∧ (waitO P 1).2.2.1 = 0 ∧ pidsJ (waitO P 1).2.2.2 = 1 :: R ∧ AllDead (waitO P 1).2.2.2 := by
  obtain ⟨p1, e1, s1, q1⟩ := h.one
  have hr := pidsJ_rising P
  have hm : r ∈ pidsJ P := by rw [hp]; simp
  obtain ⟨q, hq⟩ := Option.isSome_iff_exists.1 (h.pids.1 hm)
  have hr1 : (1 : Int) < r := by
    rw [hp] at hr
    exact (List.pairwise_cons.1 hr).1 r List.mem_cons_self
  have hdq := hd r q hq (by omega)
  have f1 : deadJ P 1 1 = false := by unfold deadJ; rw [parJ_some e1, q1]; simp
  have f2 : deadJ P 1 r = true := by unfold deadJ; rw [parJ_some hq, stJ_some hq, hdq.1, hdq.2]; simp
  have hf : (pidsJ P).find? (deadJ P 1) = some r := by rw [hp, List.find?_cons, f1, List.find?_cons, f2]
  have hru : runsJ P 1 = true := runsJ_iff.2 ⟨p1, e1, s1⟩
  have hw : waitO P 1 = (r, codeJ P r, 0, delJ P r) := by unfold waitO; rw [if_neg (by rw [hru]; simp), hf]
  rw [hw]
  refine ⟨rfl, rfl, ?_, fun n p e hn => hd n p (delJ_some e).2 hn⟩
  show pidsJ (delJ P r) = 1 :: R
  refine risingJ (pidsJ_rising _) ?_ (fun x => ?_)
  · rw [hp] at hr
    have h2 := List.pairwise_cons.1 hr
    exact List.pairwise_cons.2 ⟨fun a ha => h2.1 a (List.mem_cons_of_mem _ ha), (List.pairwise_cons.1 h2.2).2⟩
  · have hok := h.del (n := r) (by rw [stJ_some hq]; exact hdq.1)
    rw [hok.pids]
    have hx := h.pids (n := x)
    rw [hp] at hx
    rw [hp] at hr
    have h2 := List.pairwise_cons.1 hr
    have h3 := List.pairwise_cons.1 h2.2
    by_cases e : x = r
    · subst e
      constructor
      · intro z; unfold delJ at z; rw [if_pos rfl] at z; cases z
      · intro z
        rcases List.mem_cons.1 z with z | z
        · omega
        · have := h3.1 x z; omega
    · rw [delJ_ne e, ← hx]
      simp [e]
theorem wait_last {P : Ps} (h : JOk P) (hp : pidsJ P = [1]) : (waitO P 1).2.2.1 = 8 ∧ pidsJ (waitO P 1).2.2.2 = [1] := by
  obtain ⟨p1, e1, s1, q1⟩ := h.one
  have f1 : deadJ P 1 1 = false := by unfold deadJ; rw [parJ_some e1, q1]; simp
  have f2 : ownJ P 1 1 = false := by unfold ownJ; rw [parJ_some e1, q1]; simp
  have hf : (pidsJ P).find? (deadJ P 1) = none := by rw [hp, List.find?_cons, f1, List.find?_nil]
  have ha : (pidsJ P).any (ownJ P 1) = false := by rw [hp]; simp [f2]
  have hru : runsJ P 1 = true := runsJ_iff.2 ⟨p1, e1, s1⟩
  have hw : waitO P 1 = (0, 0, 8, P) := by unfold waitO; rw [if_neg (by rw [hru]; simp), hf, ha]; rfl
  rw [hw]
  exact ⟨rfl, hp⟩
section
variable {w0 w w' : World} {t g : Nat} {P : Ps} {L : List Int} {n : Int}
/-- Numbers in a block. -/
def Li (w : World) (b : Nat) (L : List Int) : Prop := b < w.heap.size ∧ ∀ j (hj : j < L.length), w.cell? ⟨b, j, none⟩ = some (.int .i64 L[j])
theorem Li.keep {b : Nat} (h : Li w b L) (hb : w'.heap[b]? = w.heap[b]?) (hs : w.heap.size ≤ w'.heap.size) : Li w' b L := ⟨Nat.lt_of_lt_of_le h.1 hs, fun j hj => by rw [World.cell?_of_block (w := w) (a := ⟨b, j, none⟩) hb]; exact h.2 j hj⟩
theorem Li.below {b : Nat} (h : Li w b L) (hb : Below w.heap.size w w') : Li w' b L := h.keep (hb.block b h.1) hb.size
theorem Li.wt {b : Nat} (h : Li w b L) (hg : b ≠ g) (hb : WtG g w w') : Li w' b L := h.keep (hb.block b h.1 hg) hb.size
theorem TJ.pids (h : TJ w0 t g w P) : Calls Tryd.prog 7 #[wp t] w fun e w' => ∃ b cap, e = .returned (.slice (some ⟨b, 0, none⟩) (pidsJ P).length cap) ∧ (pidsJ P).length ≤ cap ∧ b ≠ g ∧ Li w' b (pidsJ P) ∧ TJ w0 t g w' P ∧ Below w.heap.size w w' := by
  obtain ⟨p1, e1, _⟩ := h.a.ok.one
  have hgl := h.a.map.lt
  refine (h.a.toQM.pids (n := 1) (by rw [e1]; rfl)).mono ?_
  rintro e w' ⟨b, cap, rfl, h1, h2, h3, h4, h5⟩
  refine ⟨b, cap, rfl, h1, by omega, ⟨h3, fun j hj => ?_⟩, h.stay h5, h5⟩
  have := (h4 j (by simpa using hj)).1
  rw [Nat.zero_add, getElem!_pos (pidsJ P).toArray j (by simpa using hj)] at this
  simpa using this
set_option maxRecDepth 100000 in
set_option maxHeartbeats 1000000 in
theorem equalJ_ok {a b cap cap' : Nat} (hl : L.length ≤ 100) (ha : Li w a L) (hb : Li w b L) :
    Calls Tryd.prog 9 #[.slice (some ⟨a, 0, none⟩) L.length cap, .slice (some ⟨b, 0, none⟩) L.length cap'] w fun e w' => e = .returned (.bool true) ∧ Below w.heap.size w w' := by
  go_enter Tryd.func9, Tryd.ntmps9
  go_wp2_with fail
  go_loopg [13] L.length (fun mm s13 wr => ∃ i q : Nat, i + mm = L.length ∧ s13 = .int .i64 (i : Int) ∧ wr = w.drewN q)
  case atStart => exact ⟨0, 0, by omega, rfl, rfl⟩
  case round =>
    obtain ⟨i, q, hi, rfl, rfl⟩ := hrel
    by_cases hlt : (i : Int) < (L.length : Int)
    · have c1 : w.cell? ⟨a, i, none⟩ = some (.int .i64 L[i]) := ha.2 i (by omega)
      have c2 : w.cell? ⟨b, i, none⟩ = some (.int .i64 L[i]) := hb.2 i (by omega)
      generalize L[i] = X at *
      clear ha hb
      go_upto_region 6 with fail
      go_quiet (fail)
      go_wp2_with fail
      go_roundg (gk - 1)
      case measure => omega
      case rel => exact ⟨i + 1, _, by omega, by go_num, rfl⟩
    · go_wp2_with fail
      go_ret
      exact ⟨rfl, ⟨rfl, rfl, rfl, Nat.le_refl _, fun _ _ => rfl⟩⟩
set_option maxRecDepth 100000 in
set_option maxHeartbeats 1000000 in
theorem indexJ_ok {a cap : Nat} (hl : L.length ≤ 100) (ha : Li w a L) (x : Int) (hx : x ∈ L) :
    Calls Tryd.prog 24 #[.slice (some ⟨a, 0, none⟩) L.length cap, .int .i64 x] w fun e w' => ∃ i : Nat, e = .returned (.int .i64 (i : Int)) ∧ w' = w := by
  go_enter Tryd.func24, Tryd.ntmps24
  go_wp2_with fail
  go_loopg [5, 8] L.length (fun mm _ s8 wr => ∃ i : Nat, i + mm = L.length ∧ s8 = .int .i64 (i : Int) ∧ wr = w ∧ ∀ j (hj : j < L.length), j < i → L[j] ≠ x)
  case atStart => exact ⟨0, by omega, rfl, rfl, fun j _ hj => by omega⟩
  case round =>
    obtain ⟨i, hi, rfl, hw, hno⟩ := hrel
    subst wr
    by_cases hlt : (i : Int) < (L.length : Int)
    · have c1 : w.cell? ⟨a, i, none⟩ = some (.int .i64 L[i]) := ha.2 i (by omega)
      by_cases he : x = L[i]
      · clear hno
        rw [← he] at c1
        clear he
        go_wp2_with fail
        go_ret
        exact ⟨i, rfl, rfl⟩
      · have hb : (x == L[i]) = false := by simpa using he
        have HNO : Aside (∀ j (hj : j < L.length), j < i + 1 → L[j] ≠ x) := fun j hj hji => by
          by_cases e : j = i
          · subst e; exact fun z => he z.symm
          · exact hno j hj (by omega)
        clear hno
        generalize L[i] = X at *
        go_wp2_with fail
        go_roundg (gk - 1)
        case measure => omega
        case rel => exact ⟨i + 1, by omega, by go_num, rfl, HNO.out⟩
    · exfalso
      obtain ⟨j, hj, e⟩ := List.getElem_of_mem hx
      exact hno j hj (by omega) e
set_option maxRecDepth 100000 in
set_option maxHeartbeats 1000000 in
theorem containsJ_ok {a cap : Nat} (hl : L.length ≤ 100) (ha : Li w a L) (x : Int) (hx : x ∈ L) :
    Calls Tryd.prog 10 #[.slice (some ⟨a, 0, none⟩) L.length cap, .int .i64 x] w fun e w' => e = .returned (.bool true) ∧ w' = w := by
  have hI := indexJ_ok (cap := cap) hl ha x hx
  go_enter Tryd.func10, Tryd.ntmps10
  go_wp2_with (go_at_call 24; refine hI.mono ?_; rintro e w1 ⟨i, rfl, hw⟩; subst w1; have hi : (0 : Int) ≤ (i : Int) := by omega)
  go_ret
  exact ⟨rfl, rfl⟩
/-- What one item does: an error, or none; who is there stays where there is an error. -/
def LifeS (w0 : World) (t g : Nat) (w : World) (P : Ps) (e : Ending) (w' : World) : Prop := ∃ E P', e = .returned (uev E) ∧ (E ≠ 0 → pidsJ P' = pidsJ P) ∧ TJ w0 t g w' P' ∧ WtG g w w'
set_option maxRecDepth 100000 in
set_option maxHeartbeats 4000000 in
theorem TJ.life (h : TJ w0 t g w P) (hT : Tab64 w0) (W X Y : Int) (hX : (Lit.int .i64 X).wf = true) : Calls Tryd.prog 8 #[wp t, .agg #[.int .i64 W, .int .i64 X, .int .i64 Y]] w fun e w' => LifeS w0 t g w P e w' := by
  have hA := (Below.refl _ w).alloc (Nat.le_refl _) (.cells #[.int .i64 W, .int .i64 X, .int .i64 Y] 32)
  have S0 := h.stay hA
  have hfin : ∀ E P' V, (E ≠ 0 → pidsJ P' = pidsJ P) → TJ w0 t g V P' → WtG g (w.alloc (.cells #[.int .i64 W, .int .i64 X, .int .i64 Y] 32)) V → LifeS w0 t g w P (.returned (uev E)) V := fun E P' V a b c => ⟨E, P', rfl, a, b, (Wt.below _ hA).trans c⟩
  have HFI : Aside _ := hfin
  clear hfin
  have hself : WtG g (w.alloc (.cells #[.int .i64 W, .int .i64 X, .int .i64 Y] 32)) (w.alloc (.cells #[.int .i64 W, .int .i64 X, .int .i64 Y] 32)) := .ofB (Below.refl _ _)
  by_cases hW0 : W = 0
  · subst hW0
    have hC := S0.fork X hX
    have hp : forkE P X (cnQ P) ≠ 0 → pidsJ (forkQ P X (cnQ P)) = pidsJ P := fun z => by unfold forkQ; rw [if_neg z]
    generalize forkK P X (cnQ P) = kk at *
    generalize forkE P X (cnQ P) = ee at *
    generalize forkQ P X (cnQ P) = P1 at *
    clear h hA
    go_enter Tryd.func8, Tryd.ntmps8
    go_wp2_with (go_at_call 16; refine hC.mono ?_; rintro e w1 ⟨rfl, S1, hw⟩)
    go_ret
    exact HFI.out ee P1 _ hp S1 hw
  · have q0 : (W == 0) = false := by simpa using hW0
    by_cases hW1 : W = 1
    · subst hW1
      have hC := S0.exit X Y hX
      have hp : exitE P X ≠ 0 → pidsJ (if exitE P X = 0 then exitP P X Y else P) = pidsJ P := fun z => by rw [if_neg z]
      generalize (if exitE P X = 0 then exitP P X Y else P) = P1 at *
      generalize exitE P X = ee at *
      clear h hA
      go_enter Tryd.func8, Tryd.ntmps8
      go_wp2_with (go_at_call 13; refine hC.mono ?_; rintro e w1 ⟨rfl, S1, hw⟩)
      go_ret
      exact HFI.out ee P1 _ hp S1 hw
    · have q1 : (W == 1) = false := by simpa using hW1
      by_cases hW2 : W = 2
      · subst hW2
        have hC := S0.wait X hX
        have hp : (waitO P X).2.2.1 ≠ 0 → pidsJ (waitO P X).2.2.2 = pidsJ P := fun z => by
          unfold waitO at z ⊢
          by_cases hru : runsJ P X = false
          · rw [if_pos hru]
          · rw [if_neg hru] at z ⊢
            cases hf : (pidsJ P).find? (deadJ P X) with
            | some m => rw [hf] at z; exact absurd rfl z
            | none => rfl
        generalize (waitO P X).2.2.2 = P1 at *
        generalize (waitO P X).1 = kk at *
        generalize (waitO P X).2.1 = mm at *
        generalize (waitO P X).2.2.1 = ee at *
        clear h hA
        go_enter Tryd.func8, Tryd.ntmps8
        go_wp2_with (go_at_call 14; refine hC.mono ?_; rintro e w1 ⟨rfl, S1, hw⟩)
        go_ret
        exact HFI.out ee P1 _ hp S1 hw
      · have q2 : (W == 2) = false := by simpa using hW2
        by_cases hW3 : W = 3
        · subst hW3
          have hC := S0.kill X Y hX
          have hp : killE P X Y ≠ 0 → pidsJ (if killE P X Y = 0 then killP P X Y else P) = pidsJ P := fun z => by rw [if_neg z]
          generalize (if killE P X Y = 0 then killP P X Y else P) = P1 at *
          generalize killE P X Y = ee at *
          clear h hA
          go_enter Tryd.func8, Tryd.ntmps8
          go_wp2_with (go_at_call 19; refine hC.mono ?_; rintro e w1 ⟨rfl, S1, hw⟩)
          go_ret
          exact HFI.out ee P1 _ hp S1 hw
        · have q3 : (W == 3) = false := by simpa using hW3
          by_cases hW4 : W = 4
          · subst hW4
            have hC := S0.ignore X Y (Y.tmod 2 == 0) hX
            have hp : ignoreE P X Y ≠ 0 → pidsJ (if ignoreE P X Y = 0 then ignoreP P X Y (Y.tmod 2 == 0) else P) = pidsJ P := fun z => by rw [if_neg z]
            generalize (if ignoreE P X Y = 0 then ignoreP P X Y (Y.tmod 2 == 0) else P) = P1 at *
            generalize ignoreE P X Y = ee at *
            clear h hA
            go_enter Tryd.func8, Tryd.ntmps8
            go_wp2_with (go_at_call 18; refine hC.mono ?_; rintro e w1 ⟨rfl, S1, hw⟩)
            go_ret
            exact HFI.out ee P1 _ hp S1 hw
          · have q4 : (W == 4) = false := by simpa using hW4
            by_cases hW5 : W = 5
            · subst hW5
              have hC := S0.take hT X hX
              generalize takeP P X = P1 at *
              generalize takeS P X = kk at *
              clear h hA
              go_enter Tryd.func8, Tryd.ntmps8
              go_wp2_with (go_at_call 20; refine hC.mono ?_; rintro e w1 ⟨rfl, S1, hw⟩)
              go_ret
              exact HFI.out 0 P1 _ (fun z => absurd rfl z) S1 hw
            · have q5 : (W == 5) = false := by simpa using hW5
              clear h hA
              go_enter Tryd.func8, Tryd.ntmps8
              go_wp2_with fail
              go_ret
              exact HFI.out 0 P _ (fun _ => rfl) S0 hself
end
end Go.Proofs.YtidinhbokkelnacDoor

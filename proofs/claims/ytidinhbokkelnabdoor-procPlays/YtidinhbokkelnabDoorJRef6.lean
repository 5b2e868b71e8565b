/- The document's own Exit, by its Go text. -/
import Derived.Test.YtidinhbokkelnabDoorJRef4
namespace Go.Proofs.YtidinhbokkelnabDoor
open Go.RowKit Go.Maps Go.Sort

/-- One that has been passed by, or not yet. -/
def exq (pid code : Int) (todo : Int → Bool) (n : Int) (q : Pr) : Pr := if todo n = true then q else exit1 pid code n q
def exW (G : JG) (pid : Int) (todo : Int → Bool) (nb : Nat) (n : Int) : Nat := if n = pid ∧ todo pid = false then nb else G.W n
def exM (P : Ps) (G : JG) (pid code : Int) (todo : Int → Bool) (nb : Nat) : Int → Option Value := fun n => (P n).map (fun q => prv (exq pid code todo n q) (exW G pid todo nb n) (G.I n))
structure ExR (w : World) (P : Ps) (G : JG) (c : Nat) (pid code : Int) (cnt : Nat) (wr : World) (todo : Int → Bool) (nb : Nat) : Prop where
  rng : PRng wr G.g w.heap.size c (exM P G pid code todo nb) todo cnt
  new : todo pid = false → PMap wr nb 0 (sv noSig) ∧ w.heap.size < nb
  wt : Wt (fun i => i = G.g) w wr
section
variable {w w' : World} {t c cnt cnt1 nb nb' : Nat} {P : Ps} {G : JG} {pid code x : Int} {q : Pr} {wr w1 V : World} {todo : Int → Bool}
theorem ExR.start (hp : (P pid).isSome = true) (hr : PRng wr G.g w.heap.size c (fun n => (P n).map (fun p => prv p (G.W n) (G.I n))) (fun x => ((P x).map (fun p => prv p (G.W x) (G.I x))).isSome) c) (hg : w.grownBy wr none) : ExR w P G c pid code c wr (fun x => ((P x).map (fun p => prv p (G.W x) (G.I x))).isSome) 0 := by
  have e : (fun n => (P n).map (fun p => prv p (G.W n) (G.I n))) = exM P G pid code (fun x => ((P x).map (fun p => prv p (G.W x) (G.I x))).isSome) 0 := by
    funext n
    unfold exM exq exW
    cases hn : P n with
    | none => rfl
    | some q =>
      have : ¬ (n = pid ∧ ((P pid).map (fun p => prv p (G.W pid) (G.I pid))).isSome = false) := fun z => by
        rw [Option.isSome_map, hp] at z; cases z.2
      simp only [Option.map_some, hn, Option.isSome_some, if_true]
      rw [if_neg this]
  refine ⟨e ▸ hr, fun z => ?_, ⟨hg.os, hg.tape, hg.output, hg.size, fun i hi _ => hg.block i hi (by simp)⟩⟩
  simp only [Option.isSome_map, hp] at z
  cases z
theorem ExR.val (e : ExR w P G c pid code cnt wr todo nb) (htx : todo x = true) {v : Value} (hv : exM P G pid code todo nb x = some v) : ∃ q, P x = some q ∧ v = prv q (G.W x) (G.I x) := by
  unfold exM at hv
  cases hq : P x with
  | none => rw [hq] at hv; cases hv
  | some q =>
    rw [hq] at hv
    refine ⟨q, rfl, ?_⟩
    have h2 : exW G pid todo nb x = G.W x := by
      unfold exW
      rw [if_neg]
      rintro ⟨rfl, z⟩
      rw [htx] at z; cases z
    simp only [Option.map_some, Option.some.injEq, exq, htx, if_true, h2] at hv
    exact hv.symm
theorem ExR.step (h : RJ w t P G c) (e : ExR w P G c pid code cnt wr todo nb) (hx : P x = some q) (hr : PRng w1 G.g w.heap.size c (exM P G pid code todo nb) (fun z => todo z && !decide (z = x)) cnt1) (hg1 : wr.grownBy w1 (some w.heap.size)) (hV : Below w1.heap.size w1 V) (h1 : x = pid → PMap V nb' 0 (sv noSig) ∧ w1.heap.size ≤ nb') (h2 : x ≠ pid → nb' = nb) :
    ∃ w5, (Instr.mapUpdate 115 (.map (some G.g)) (.int .i64 x) (prv (exit1 pid code x q) (if x = pid then nb' else G.W x) (G.I x))).run Tryd.prog V = .ok () w5 ∧ ExR w P G c pid code cnt1 w5 (fun z => todo z && !decide (z = x)) nb' := by
  have hk := h.ok.key x q hx
  have hgl := h.map.lt
  have hs1 := hg1.size
  have hsw := e.wt.size
  have hrl := hr.rlt
  have hVr : PRng V G.g w.heap.size c (exM P G pid code todo nb) (fun z => todo z && !decide (z = x)) cnt1 := hr.keep (hV.block _ (by omega)) (hV.block _ (by omega))
  have hin : (exM P G pid code todo nb x).isSome = true := by unfold exM; rw [hx]; rfl
  have hc := h.few
  obtain ⟨w5, hrun, r5, g5⟩ := hVr.put Tryd.underlying115 (by unfold maxLen; omega) x (wf64 (by omega)) hin (prv (exit1 pid code x q) (if x = pid then nb' else G.W x) (G.I x))
  have hM : (fun i => if i = x then some (prv (exit1 pid code x q) (if x = pid then nb' else G.W x) (G.I x)) else exM P G pid code todo nb i) = exM P G pid code (fun z => todo z && !decide (z = x)) nb' := by
    funext i
    by_cases hi : i = x
    · subst hi
      rw [if_pos rfl]
      unfold exM exq exW
      rw [hx]
      by_cases hp : i = pid
      · subst hp; simp
      · simp [hp]
    · rw [if_neg hi]
      unfold exM exq exW
      cases P i with
      | none => rfl
      | some p =>
        by_cases hp : i = pid
        · subst hp
          have := h2 (fun z => hi z.symm)
          subst this
          simp [hi]
        · simp [hi, hp]
  rw [hM] at r5
  have hsv := hV.size
  have hs5 := g5.size
  have hwt : Wt (fun i => i = G.g) w w5 := by
    refine ⟨g5.os.trans (hV.os.trans (hg1.os.trans e.wt.os)), g5.tape.trans (hV.tape.trans (hg1.tape.trans e.wt.tape)), g5.output.trans (hV.output.trans (hg1.output.trans e.wt.output)), by omega, fun i hi hne => ?_⟩
    rw [g5.block i (by omega) (fun z => hne (Option.some.inj z)), hV.block i (by omega), hg1.block i (by omega) (fun z => by have := Option.some.inj z; omega)]
    exact e.wt.block i hi hne
  refine ⟨w5, hrun, r5, fun z => ?_, hwt⟩
  by_cases hp : x = pid
  · obtain ⟨a, b⟩ := h1 hp
    exact ⟨a.keep (g5.block _ a.lt (fun z => by have := Option.some.inj z; omega)), by omega⟩
  · have := h2 hp
    subst this
    have hz : todo pid = false := by
      simp only [Bool.and_eq_false_iff, Bool.not_eq_false', decide_eq_true_eq] at z
      rcases z with z | z
      · exact z
      · exact absurd z.symm hp
    obtain ⟨a, b⟩ := e.new hz
    have hal := a.lt
    refine ⟨(((a.keep (hg1.block _ hal (fun z => by have := Option.some.inj z; omega))).keep (hV.block _ (by omega))).keep (g5.block _ (by omega) (fun z => by have := Option.some.inj z; omega))), b⟩
theorem ExR.done (h : RJ w t P G c) (hr : runsJ P pid = true) (hp1 : pid ≠ 1) (e : ExR w P G c pid code cnt wr todo nb) (hl : ∀ x, todo x = false) : RJo w t (exitP P pid code) G wr := by
  obtain ⟨hn, hnb⟩ := e.new (hl pid)
  obtain ⟨qp, hqp, _⟩ := runsJ_iff.1 hr
  have hps : (P pid).isSome = true := by rw [hqp]; rfl
  have o : ∀ i y, G.kap i = some y → i < w.heap.size := fun i y z => h.lt i (by rw [z]; rfl)
  have st : ∀ i, i < w.heap.size → i ≠ G.g → wr.heap[i]? = w.heap[i]? := fun i hi hne => e.wt.block i hi hne
  have hm := e.rng.map
  have hM : exM P G pid code todo nb = fun n => (exitP P pid code n).map (fun p => prv p (if n = pid then nb else G.W n) (G.I n)) := by
    funext n
    unfold exM exq exW exitP
    cases P n with
    | none => rfl
    | some q => simp [hl]
  rw [hM] at hm
  have cs : ∀ i p, exitP P pid code i = some p → ∃ q, P i = some q ∧ p = exit1 pid code i q := fun i p e => by
    unfold exitP at e
    cases hq : P i with
    | none => rw [hq] at e; cases e
    | some q => rw [hq] at e; exact ⟨q, rfl, (Option.some.inj e).symm⟩
  have is : ∀ i, (exitP P pid code i).isSome = (P i).isSome := fun i => by unfold exitP; rw [Option.isSome_map]
  have hsz := e.wt.size
  refine .of (G' := ⟨G.g, fun n => if n = pid then nb else G.W n, G.I, fun i => if i = nb then some (pid, 0) else if i = G.W pid then none else G.kap i⟩) (c' := c) ⟨(st t (o _ _ h.kt) h.gt.symm).trans h.head, hm, fun n p z => ?_, fun n p z => ?_, ?_, ?_, fun n z => ?_, fun n z => ?_, fun i z => ?_, h.ok.exit hr hp1⟩ ⟨⟨e.wt.os, e.wt.tape, e.wt.output, hsz, fun i hi hne => st i hi (fun z => hne (by rw [z]; unfold JG.own; rw [h.kg]; rfl))⟩, fun i z => ?_⟩
  · obtain ⟨q, hq, rfl⟩ := cs n p z
    rw [(exit1_sig q).1]
    show ∃ s, PMap wr (if n = pid then nb else G.W n) s _
    split
    · exact ⟨0, hn⟩
    · obtain ⟨s, m⟩ := h.wt n q hq
      exact ⟨s, m.keep (st _ m.lt (h.wg (by rw [hq]; rfl)).1)⟩
  · obtain ⟨q, hq, rfl⟩ := cs n p z
    rw [(exit1_sig q).2]
    obtain ⟨s, m⟩ := h.ig n q hq
    exact ⟨s, m.keep (st _ m.lt (h.ig' (by rw [hq]; rfl)).1)⟩
  · have := o _ _ h.kt
    show (if t = nb then _ else if t = G.W pid then _ else _) = _
    rw [if_neg (by omega), if_neg (h.wg hps).2.symm]; exact h.kt
  · have := o _ _ h.kg
    show (if G.g = nb then _ else if G.g = G.W pid then _ else _) = _
    rw [if_neg (by omega), if_neg (h.wg hps).1.symm]; exact h.kg
  · rw [is] at z
    show (if (if n = pid then nb else G.W n) = nb then some (pid, 0) else if (if n = pid then nb else G.W n) = G.W pid then none else G.kap (if n = pid then nb else G.W n)) = _
    by_cases hp : n = pid
    · rw [if_pos hp, if_pos rfl, hp]
    · have := o _ _ (h.kw n z)
      rw [if_neg hp, if_neg (by omega), if_neg (h.ww z hps hp)]; exact h.kw n z
  · rw [is] at z
    have := o _ _ (h.ki n z)
    show (if G.I n = nb then _ else if G.I n = G.W pid then _ else _) = _
    rw [if_neg (by omega), if_neg (h.wi hps z).symm]; exact h.ki n z
  · simp only at z
    split at z
    · rename_i e1; rw [e1]; exact hn.lt
    · split at z
      · cases z
      · exact Nat.lt_of_lt_of_le (h.lt i z) hsz
  · unfold JG.own at z
    simp only at z
    split at z
    · right; omega
    · split at z
      · cases z
      · exact .inl z
set_option maxRecDepth 100000 in
set_option maxHeartbeats 4000000 in
theorem RJ.exit (h : RJ w t P G c) (pid code : Int) (hn : (Lit.int .i64 pid).wf = true) : Calls Tryd.prog 55 #[wp t, .int .i64 pid, .int .i64 code] w fun e w' => e = .returned (.int .i64 (exitE P pid)) ∧ RJo w t (if exitE P pid = 0 then exitP P pid code else P) G w' := by
  have c0 := h.c0
  have hr := h.runs pid hn
  cases hru : runsJ P pid with
  | false =>
    rw [hru] at hr
    have hE : exitE P pid = 7 := by unfold exitE; rw [if_pos hru]
    rw [hE, if_neg (by omega)]
    go_enter Tryd.func55, Tryd.ntmps55
    go_wp2_with (go_at_call 68; refine hr.mono ?_; rintro e w1 ⟨rfl, hw⟩; subst w1)
    go_ret
    exact ⟨rfl, .same h⟩
  | true =>
    rw [hru] at hr
    by_cases h1 : pid = 1
    · have hE : exitE P pid = 6 := by unfold exitE; rw [if_neg (by rw [hru]; simp), if_pos h1]
      rw [hE, if_neg (by omega)]
      subst h1
      go_enter Tryd.func55, Tryd.ntmps55
      go_wp2_with (go_at_call 68; refine hr.mono ?_; rintro e w1 ⟨rfl, hw⟩; subst w1)
      go_ret
      exact ⟨rfl, .same h⟩
    · have hE : exitE P pid = 0 := by unfold exitE; rw [if_neg (by rw [hru]; simp), if_neg h1]
      rw [hE, if_pos rfl]
      have hm := h.map
      obtain ⟨qp, hqp, hst⟩ := runsJ_iff.1 hru
      have hC := fun w0 => @ExR.start w c P G pid code w0 (by rw [hqp]; rfl)
      have hb1 : (pid == 1) = false := by simpa using h1
      clear hst
      go_enter Tryd.func55, Tryd.ntmps55
      go_wp2_with (first
        | (go_at_call 68; refine hr.mono ?_; rintro e w1 ⟨rfl, hw⟩; subst w1)
        | (at_range; refine wpList_krange rfl _ 115 rfl 114 Tryd.underlying115 G.g _ _ rfl hm ?_; intro w0 hr0 hg0 hs0))
      have hC0 := hC w0 hr0 hg0
      go_frame
      clear hC hr0 hg0 hs0 hm hr
      go_loopg [7] c (fun mm s7 wr => ∃ todo nb, ExR w P G c pid code mm wr todo nb)
      case atStart => exact ⟨_, _, hC0⟩
      case round =>
        clear hC0
        obtain ⟨todo, nb, hx⟩ := hrel
        have hrg := hx.rng
        go_wp2_with (at_next; refine wpList_knext rfl _ rfl G.g w.heap.size _ _ _ _ rfl hrg ?_ ?_)
        · intro hl
          have hfin := hx.done h hru h1 hl
          clear hx hrg
          go_wp2_with fail
          go_ret
          exact ⟨rfl, hfin⟩
        · intro x v w1 cnt1 hwx htx hMx hrg1 hlt hg1 hs1 hen
          obtain ⟨q, hq, rfl⟩ := hx.val htx hMx
          have hpar := (h.ok.par x q hq)
          have HS := fun V hV nb' h1 h2 => @ExR.step w t c _ cnt1 nb nb' P G pid code x q wr w1 V todo h hx hq hrg1 hg1 hV h1 h2
          have hA : ∀ o, Below w1.heap.size w1 (w1.alloc o) := fun o => (Below.refl _ w1).alloc (Nat.le_refl _) o
          have hc1 : w1.cell? ⟨t, 0, none⟩ = some (.map (some G.g)) := by
            have htl := h.lt t (by rw [h.kt]; rfl)
            have h2 := hx.wt.size
            rw [World.cell?_of_block (w := wr) (a := ⟨t, 0, none⟩) (hg1.block t (by omega) (fun z => by have := Option.some.inj z; omega)), World.cell?_of_block (w := w) (a := ⟨t, 0, none⟩) (hx.wt.block t htl h.gt.symm)]
            exact c0
          have htl : t < w1.heap.size := World.block_lt_of_cell? w1 _ hc1
          have hnx : w1.heap.size ≠ t := by omega
          obtain ⟨qpar, qst, qcode, qwt, qig⟩ := q
          have HSS : Aside _ := HS
          clear HS hx hrg hMx hrg1 hg1 hs1 c0
          by_cases hxp : x = pid
          · have hpp : qpar ≠ pid := by subst hxp; exact (hpar h1).2
            have hpb : (qpar == pid) = false := by simpa using hpp
            clear hpar
            have hmm := @run_makeMap Tryd.prog
            subst hxp
            obtain ⟨C, hC⟩ : ∃ C : Obj, C = .cells #[.int .i64 qpar, .int .i64 2, .int .i64 code, .map (some (w1.heap.size + 1)), .map (some (G.I x))] 114 := ⟨_, rfl⟩
            have hsz : (w1.alloc C).heap.size = w1.heap.size + 1 := by show (w1.heap.push _).size = _; rw [Array.size_push]
            have hb2 : Below w1.heap.size w1 ((w1.alloc C).alloc (.map #[] 0)) := (hA C).alloc (by rw [hsz]; omega) _
            have hpm := PMap.made (w1.alloc C)
            rw [hsz, sv_no] at hpm
            have hca := hb2.cell (p := ⟨t, 0, none⟩) htl
            rw [hc1] at hca
            obtain ⟨w5, hrun, h5⟩ := HSS.out _ (belowJ_dr hb2) (w1.heap.size + 1) (fun _ => ⟨hpm.keep rfl, by omega⟩) (fun z => absurd rfl z)
            have hv : prv (exit1 x code x ⟨qpar, qst, qcode, qwt, qig⟩) (if x = x then w1.heap.size + 1 else G.W x) (G.I x) = .agg #[.int .i64 qpar, .int .i64 2, .int .i64 code, .map (some (w1.heap.size + 1)), .map (some (G.I x))] := by
              unfold exit1; simp only [if_true, if_neg hpp]
            rw [hv] at hrun
            subst hC
            clear hv htx hb2 hpm hsz
            go_upto_region 12 with fail
            go_region
            all_goals
              go_wp2_with fail
              go_roundg cnt1
              case measure => exact hlt
              case rel => exact ⟨_, _, h5⟩
          · have hxb : (x == pid) = false := by simpa using hxp
            by_cases hpp : qpar = pid
            · have hca := World.cell?_alloc_lt w1 (.cells #[.int .i64 1, .int .i64 qst, .int .i64 qcode, .map (some (G.W x)), .map (some (G.I x))] 114) ⟨t, 0, none⟩ htl
              rw [hc1] at hca
              obtain ⟨w5, hrun, h5⟩ := HSS.out _ (belowJ_dr (hA (.cells #[.int .i64 1, .int .i64 qst, .int .i64 qcode, .map (some (G.W x)), .map (some (G.I x))] 114))) nb (fun z => absurd z hxp) (fun _ => rfl)
              have hv : prv (exit1 pid code x ⟨qpar, qst, qcode, qwt, qig⟩) (if x = pid then nb else G.W x) (G.I x) = .agg #[.int .i64 1, .int .i64 qst, .int .i64 qcode, .map (some (G.W x)), .map (some (G.I x))] := by
                unfold exit1; simp only [if_neg hxp, if_pos hpp]
              rw [hv] at hrun
              clear hpar hv htx
              go_upto_region 12 with fail
              go_region
              all_goals
                go_wp2_with fail
                go_roundg cnt1
                case measure => exact hlt
                case rel => exact ⟨_, _, h5⟩
            · have hpb : (qpar == pid) = false := by simpa using hpp
              have hca := World.cell?_alloc_lt w1 (.cells #[.int .i64 qpar, .int .i64 qst, .int .i64 qcode, .map (some (G.W x)), .map (some (G.I x))] 114) ⟨t, 0, none⟩ htl
              rw [hc1] at hca
              obtain ⟨w5, hrun, h5⟩ := HSS.out _ (belowJ_dr (hA (.cells #[.int .i64 qpar, .int .i64 qst, .int .i64 qcode, .map (some (G.W x)), .map (some (G.I x))] 114))) nb (fun z => absurd z hxp) (fun _ => rfl)
              have hv : prv (exit1 pid code x ⟨qpar, qst, qcode, qwt, qig⟩) (if x = pid then nb else G.W x) (G.I x) = .agg #[.int .i64 qpar, .int .i64 qst, .int .i64 qcode, .map (some (G.W x)), .map (some (G.I x))] := by
                unfold exit1; simp only [if_neg hxp, if_neg hpp]
              rw [hv] at hrun
              clear hpar hv htx
              go_upto_region 12 with fail
              go_region
              all_goals
                go_wp2_with fail
                go_roundg cnt1
                case measure => exact hlt
                case rel => exact ⟨_, _, h5⟩
end
end Go.Proofs.YtidinhbokkelnabDoor

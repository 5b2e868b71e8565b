/- The document's own Fork, by its Go text. -/
import Derived.Test.YtidinhbokkelnabDoorJRef6
namespace Go.Proofs.YtidinhbokkelnabDoor
open Go.RowKit Go.Maps Go.Sort

/-- Between two rounds of the copying: wA is the world ahead. -/
structure FkR (wA : World) (N b s : Nat) (f : Int → Bool) (cnt : Nat) (wr : World) (todo : Int → Bool) : Prop where
  rng : PRng wr b wA.heap.size s (sv f) todo cnt
  new : ∃ s', PMap wr (N + 1) s' (sv (fun i => f i && !todo i))
  wt : Wt (fun i => i = N + 1) wA wr
section
variable {w w' : World} {t c cnt cnt1 N b s : Nat} {P : Ps} {G : JG} {pid k x : Int} {q : Pr} {wA wr w1 V : World} {todo f : Int → Bool}
theorem sv_some {v : Value} (h : sv f x = some v) : f x = true ∧ v = .int .i64 1 := by
  unfold sv at h
  split at h
  · rename_i e; exact ⟨e, (Option.some.inj h).symm⟩
  · cases h
theorem FkR.start (hA : wA.heap.size = N + 3) (hp : PMap wA (N + 1) 0 (fun _ => none)) (hr : PRng wr b wA.heap.size s (sv f) (fun x => (sv f x).isSome) s) (hg : wA.grownBy wr none) : FkR wA N b s f s wr (fun x => (sv f x).isSome) := by
  refine ⟨hr, ⟨0, ?_⟩, ⟨hg.os, hg.tape, hg.output, hg.size, fun i hi _ => hg.block i hi (by simp)⟩⟩
  have : sv (fun i => f i && !(sv f i).isSome) = fun _ => none := by
    funext i
    unfold sv
    cases f i <;> simp
  rw [this]
  exact hp.keep (hg.block _ (by omega) (by simp))
theorem FkR.step (hA : wA.heap.size = N + 3) (hb : b < N) (e : FkR wA N b s f cnt wr todo) (hf : ∀ i, f i = true → 1 ≤ i ∧ i < 8) (hx : f x = true) (hr : PRng w1 b wA.heap.size s (sv f) (fun z => todo z && !decide (z = x)) cnt1) (hg1 : wr.grownBy w1 (some wA.heap.size)) :
    ∃ w5, (Instr.mapUpdate 112 (.map (some (N + 1))) (.int .i64 x) (.int .i64 1)).run Tryd.prog w1 = .ok () w5 ∧ FkR wA N b s f cnt1 w5 (fun z => todo z && !decide (z = x)) := by
  have hk := hf x hx
  have hs1 := hg1.size
  have hsw := e.wt.size
  obtain ⟨s', m⟩ := e.new
  have m1 := m.keep (hg1.block _ m.lt (fun z => by have := Option.some.inj z; omega))
  have h8 := sv_size m1 (fun i hi => by
    have := hf i (by cases hfi : f i with | true => rfl | false => rw [hfi] at hi; simp at hi)
    omega)
  obtain ⟨w5, hrun, m5, g5⟩ := m1.put Tryd.underlying112 (by unfold maxLen; omega) x (wf64 (by omega)) (.int .i64 1)
  rw [sv_put] at m5
  have hM : putS (fun i => f i && !todo i) x true = fun i => f i && !(todo i && !decide (i = x)) := by
    funext i
    unfold putS
    by_cases hi : i = x
    · subst hi; simp [hx]
    · simp [hi]
  rw [hM] at m5
  have hs5 := g5.size
  have hrl := hr.rlt
  refine ⟨w5, hrun, hr.keep (g5.block _ (by omega) (fun z => by have := Option.some.inj z; omega)) (g5.block _ hrl (fun z => by have := Option.some.inj z; omega)), ⟨_, m5⟩, ⟨g5.os.trans (hg1.os.trans e.wt.os), g5.tape.trans (hg1.tape.trans e.wt.tape), g5.output.trans (hg1.output.trans e.wt.output), by omega, fun i hi hne => ?_⟩⟩
  rw [g5.block i (by omega) (fun z => hne (Option.some.inj z)), hg1.block i (by omega) (fun z => by have := Option.some.inj z; omega)]
  exact e.wt.block i hi hne
theorem FkR.done (h : RJ w t P G c) (hr : runsJ P pid = true) (hk : FreeJ P k) (h24 : k ≤ 24) (hb : Below w.heap.size w wA) (hA : wA.heap.size = w.heap.size + 3) (hq : P pid = some q) (hp0 : PMap wA w.heap.size 0 (fun _ => none)) (e : FkR wA w.heap.size b s q.ig cnt wr todo) (hl : ∀ x, todo x = false) :
    ∃ w5, (Instr.mapUpdate 115 (.map (some G.g)) (.int .i64 k) (.agg #[.int .i64 pid, .int .i64 1, .int .i64 0, .map (some w.heap.size), .map (some (w.heap.size + 1))])).run Tryd.prog wr.drew = .ok () w5 ∧ RJo w t (forkP P pid k) G w5 := by
  have hsw := e.wt.size
  have hc := h.few
  have hgl := h.map.lt
  have hkp := hk.pos
  have st : ∀ i, i < w.heap.size → wr.heap[i]? = w.heap[i]? := fun i hi => (e.wt.block i (by omega) (by omega)).trans (hb.block i hi)
  have pm : PMap wr.drew G.g c (fun n => (P n).map (fun p => prv p (G.W n) (G.I n))) := h.map.keep (st _ hgl)
  obtain ⟨w5, hrun, m5, g5⟩ := pm.put Tryd.underlying115 (by unfold maxLen; omega) k (wf64 (by omega)) (.agg #[.int .i64 pid, .int .i64 1, .int .i64 0, .map (some w.heap.size), .map (some (w.heap.size + 1))])
  refine ⟨w5, hrun, ?_⟩
  have hs5 : wr.heap.size ≤ w5.heap.size := g5.size
  have st5 : ∀ i, i < wr.heap.size → i ≠ G.g → w5.heap[i]? = wr.heap[i]? := fun i hi hne => g5.block i hi (fun z => hne (Option.some.inj z))
  have o : ∀ i y, G.kap i = some y → i < w.heap.size := fun i y z => h.lt i (by rw [z]; rfl)
  have h0 : PMap w5 w.heap.size 0 (sv noSig) := by
    rw [← sv_no]
    exact (hp0.keep (e.wt.block _ (by omega) (by omega))).keep (st5 _ (by omega) (by omega))
  obtain ⟨s', m1⟩ := e.new
  have e1 : (fun i => q.ig i && !todo i) = q.ig := by funext i; simp [hl]
  rw [e1] at m1
  have h1 : PMap w5 (w.heap.size + 1) s' (sv q.ig) := m1.keep (st5 _ m1.lt (by omega))
  have hig : igJ P pid = q.ig := by unfold igJ; rw [hq]; rfl
  have cs : ∀ i p, forkP P pid k i = some p → (i = k ∧ p = ⟨pid, 1, 0, noSig, q.ig⟩) ∨ (i ≠ k ∧ P i = some p) := fun i p z => by
    by_cases hi : i = k
    · subst hi; unfold forkP at z; rw [setJ_same, hig] at z; exact .inl ⟨rfl, (Option.some.inj z).symm⟩
    · unfold forkP at z; rw [setJ_ne hi] at z; exact .inr ⟨hi, z⟩
  have is : ∀ i, (forkP P pid k i).isSome = true → i = k ∨ (i ≠ k ∧ (P i).isSome = true) := fun i z => by
    by_cases hi : i = k
    · exact .inl hi
    · unfold forkP at z; rw [setJ_ne hi] at z; exact .inr ⟨hi, z⟩
  have hno : (P k).isSome = false := by rw [hk.no]; rfl
  refine .of (G' := ⟨G.g, fun n => if n = k then w.heap.size else G.W n, fun n => if n = k then w.heap.size + 1 else G.I n, fun i => if i = w.heap.size then some (k, 0) else if i = w.heap.size + 1 then some (k, 1) else G.kap i⟩) (c' := c + 1) ⟨?_, ?_, fun n p z => ?_, fun n p z => ?_, ?_, ?_, fun n z => ?_, fun n z => ?_, fun i z => ?_, h.ok.fork hr hk h24⟩ ⟨⟨g5.os.trans (e.wt.os.trans hb.os), g5.tape.trans (e.wt.tape.trans hb.tape), g5.output.trans (e.wt.output.trans hb.output), by omega, fun i hi hne => ?_⟩, fun i z => ?_⟩
  · rw [st5 t (by have := o _ _ h.kt; omega) h.gt.symm, st t (o _ _ h.kt)]; exact h.head
  · have hM : (fun i => if i = k then some (Value.agg #[.int .i64 pid, .int .i64 1, .int .i64 0, .map (some w.heap.size), .map (some (w.heap.size + 1))]) else (P i).map (fun p => prv p (G.W i) (G.I i))) = fun n => (forkP P pid k n).map (fun p => prv p (if n = k then w.heap.size else G.W n) (if n = k then w.heap.size + 1 else G.I n)) := by
      funext i
      unfold forkP
      by_cases hi : i = k
      · subst hi; rw [setJ_same]; simp
      · rw [setJ_ne hi]; simp [hi]
    rw [hM, Option.isSome_map, hno] at m5
    exact m5
  · show ∃ s, PMap w5 (if n = k then w.heap.size else G.W n) s (sv p.wt)
    rcases cs n p z with ⟨rfl, rfl⟩ | ⟨hi, z⟩
    · rw [if_pos rfl]; exact ⟨0, h0⟩
    · rw [if_neg hi]
      have hz : (P n).isSome = true := by rw [z]; rfl
      obtain ⟨s, m⟩ := h.wt n p z
      have := m.lt
      exact ⟨s, (m.keep (st _ m.lt)).keep (st5 _ (by omega) (h.wg hz).1)⟩
  · show ∃ s, PMap w5 (if n = k then w.heap.size + 1 else G.I n) s (sv p.ig)
    rcases cs n p z with ⟨rfl, rfl⟩ | ⟨hi, z⟩
    · rw [if_pos rfl]; exact ⟨_, h1⟩
    · rw [if_neg hi]
      have hz : (P n).isSome = true := by rw [z]; rfl
      obtain ⟨s, m⟩ := h.ig n p z
      have := m.lt
      exact ⟨s, (m.keep (st _ m.lt)).keep (st5 _ (by omega) (h.ig' hz).1)⟩
  · have := o _ _ h.kt
    show (if t = w.heap.size then _ else if t = w.heap.size + 1 then _ else _) = _
    rw [if_neg (by omega), if_neg (by omega)]; exact h.kt
  · show (if G.g = w.heap.size then _ else if G.g = w.heap.size + 1 then _ else _) = _
    rw [if_neg (by omega), if_neg (by omega)]; exact h.kg
  · show (if (if n = k then w.heap.size else G.W n) = w.heap.size then some (k, 0) else if (if n = k then w.heap.size else G.W n) = w.heap.size + 1 then some (k, 1) else G.kap (if n = k then w.heap.size else G.W n)) = _
    rcases is n z with rfl | ⟨hi, z⟩
    · rw [if_pos rfl, if_pos rfl]
    · have := o _ _ (h.kw n z)
      rw [if_neg hi, if_neg (by omega), if_neg (by omega)]; exact h.kw n z
  · show (if (if n = k then w.heap.size + 1 else G.I n) = w.heap.size then some (k, 0) else if (if n = k then w.heap.size + 1 else G.I n) = w.heap.size + 1 then some (k, 1) else G.kap (if n = k then w.heap.size + 1 else G.I n)) = _
    rcases is n z with rfl | ⟨hi, z⟩
    · rw [if_pos rfl, if_neg (by omega), if_pos rfl]
    · have := o _ _ (h.ki n z)
      rw [if_neg hi, if_neg (by omega), if_neg (by omega)]; exact h.ki n z
  · simp only at z
    split at z
    · omega
    · split at z
      · omega
      · have := h.lt i z; omega
  · rw [st5 i (by omega) (fun z => hne (by rw [z]; unfold JG.own; rw [h.kg]; rfl))]; exact st i hi
  · unfold JG.own at z
    simp only at z
    split at z
    · right; omega
    · split at z
      · right; omega
      · exact .inl z
set_option maxRecDepth 100000 in
set_option maxHeartbeats 4000000 in
theorem RJ.fork (h : RJ w t P G c) (pid : Int) (hn : (Lit.int .i64 pid).wf = true) : Calls Tryd.prog 53 #[wp t, .int .i64 pid] w fun e w' => e = .returned (.tuple #[.int .i64 (forkK P pid c), .int .i64 (forkE P pid c)]) ∧ RJo w t (forkQ P pid c) G w' := by
  have c0 := h.c0
  have hr := h.runs pid hn
  have hm := h.map
  cases hru : runsJ P pid with
  | false =>
    rw [hru] at hr
    have hE : forkE P pid c = 7 := by unfold forkE; rw [if_pos hru]
    have hK : forkK P pid c = 0 := by unfold forkK; rw [hE, if_neg (by omega)]
    have hQ : forkQ P pid c = P := by unfold forkQ; rw [hE, if_neg (by omega)]
    rw [hE, hK, hQ]
    go_enter Tryd.func53, Tryd.ntmps53
    go_wp2_with (go_at_call 68; refine hr.mono ?_; rintro e w1 ⟨rfl, hw⟩; subst w1)
    go_ret2
    exact ⟨rfl, .same h⟩
  | true =>
    rw [hru] at hr
    by_cases h24 : 24 ≤ c
    · have hE : forkE P pid c = 12 := by unfold forkE; rw [if_neg (by rw [hru]; simp), if_pos h24]
      have hK : forkK P pid c = 0 := by unfold forkK; rw [hE, if_neg (by omega)]
      have hQ : forkQ P pid c = P := by unfold forkQ; rw [hE, if_neg (by omega)]
      rw [hE, hK, hQ]
      have h24' : (24 : Int) ≤ (c : Int) := by omega
      go_enter Tryd.func53, Tryd.ntmps53
      go_wp2_with (first
        | (go_at_call 68; refine hr.mono ?_; rintro e w1 ⟨rfl, hw⟩; subst w1)
        | (at_len; refine wpList_klen rfl _ 115 rfl 114 Tryd.underlying115 G.g _ _ rfl hm ?_))
      go_ret2
      exact ⟨rfl, .same h⟩
    · have hE : forkE P pid c = 0 := by unfold forkE; rw [if_neg (by rw [hru]; simp), if_neg h24]
      obtain ⟨k, hk, hkl⟩ := FreeJ.ex h.num (by omega)
      have hK : forkK P pid c = k := by unfold forkK; rw [if_pos hE, leastJ_eq hk hkl]
      have hQ : forkQ P pid c = forkP P pid k := by unfold forkQ; rw [if_pos hE, leastJ_eq hk hkl]
      rw [hE, hK, hQ]
      obtain ⟨q, hq, hst⟩ := runsJ_iff.1 hru
      have h24' : (c : Int) < 24 := by omega
      have hkp := hk.pos
      clear hst
      go_enter Tryd.func53, Tryd.ntmps53
      go_wp2_with (first
        | (go_at_call 68; refine hr.mono ?_; rintro e w1 ⟨rfl, hw⟩; subst w1)
        | (at_len; refine wpList_klen rfl _ 115 rfl 114 Tryd.underlying115 G.g _ _ rfl hm ?_))
      clear hm hr
      go_loopg [6] 25 (fun mm s6 wr => ∃ x : Nat, x + mm = 26 ∧ 1 ≤ x ∧ (x : Int) ≤ k ∧ s6 = .int .i64 (x : Int) ∧ wr = w)
      case atStart => exact ⟨1, by omega, by omega, by omega, rfl, rfl⟩
      case round =>
        obtain ⟨x, hx, hx1, hxk, rfl, hw⟩ := hrel
        subst wr
        by_cases hxe : (x : Int) = k
        · have hl := h.lookN hk.no (wf64 (by omega))
          obtain ⟨-, hf, -, -⟩ := prv_f 0 0 0 none none w
          have hl2 := h.lookS hq hn
          have hmm := @run_makeMap Tryd.prog
          rw [hxe] at *
          obtain ⟨wA, hwA⟩ : ∃ wA, ((w.alloc (.map #[] 0)).alloc (.map #[] 0)).alloc (.cells #[.int .i64 pid, .int .i64 1, .int .i64 0, .map (some w.heap.size), .map (some (w.heap.size + 1))] 114) = wA := ⟨_, rfl⟩
          have hsz1 : (w.alloc (.map #[] 0)).heap.size = w.heap.size + 1 := by show (w.heap.push _).size = _; rw [Array.size_push]
          have hsz2 : ((w.alloc (.map #[] 0)).alloc (.map #[] 0)).heap.size = w.heap.size + 2 := by show ((w.heap.push _).push _).size = _; rw [Array.size_push, Array.size_push]
          have hszA : wA.heap.size = w.heap.size + 3 := by rw [← hwA]; show (((w.heap.push _).push _).push _).size = _; rw [Array.size_push, Array.size_push, Array.size_push]
          have p0 : PMap wA w.heap.size 0 (fun _ => none) := by
            rw [← hwA]
            exact ((PMap.made w).keep (Below.heap_alloc _ _ _ (by rw [hsz1]; omega))).keep (Below.heap_alloc _ _ _ (by rw [hsz2]; omega))
          have p1 : PMap wA (w.heap.size + 1) 0 (fun _ => none) := by
            have := PMap.made (w.alloc (.map #[] 0))
            rw [hsz1] at this
            rw [← hwA]
            exact this.keep (Below.heap_alloc _ _ _ (by rw [hsz2]; omega))
          have bA : Below w.heap.size w wA := by
            rw [← hwA]
            exact (((Below.refl _ w).alloc (Nat.le_refl _) _).alloc (by rw [hsz1]; omega) _).alloc (by rw [hsz2]; omega) _
          have hblk : wA.heap[w.heap.size + 2]? = some (.cells #[.int .i64 pid, .int .i64 1, .int .i64 0, .map (some w.heap.size), .map (some (w.heap.size + 1))] 114) := by
            rw [← hwA]
            show ((((w.heap.push _).push _).push _))[w.heap.size + 2]? = _
            rw [Array.getElem?_push, if_pos (by rw [Array.size_push, Array.size_push])]
          have hA := h.below bA
          have a0 := hA.c0
          have al := hA.lookS hq hn
          obtain ⟨-, -, -, af4⟩ := prv_f q.parent q.state q.code (some (G.W pid)) (some (G.I pid)) wA
          obtain ⟨s, mig⟩ := hA.ig pid q hq
          have hIl : G.I pid < w.heap.size := h.lt _ (by rw [h.ki pid (by rw [hq]; rfl)]; rfl)
          have hst := fun wr hr hg => @FkR.start w.heap.size (G.I pid) s wA wr q.ig hszA p1 hr hg
          have HST : Aside _ := hst
          have HSZ : Aside _ := hszA
          have HP0 : Aside _ := p0
          have HBA : Aside _ := bA
          have HBL : Aside _ := hblk
          clear hst hszA hsz1 hsz2 p0 p1 bA hblk hA
          go_upto_region 10 with (at_range; refine wpList_krange rfl _ 112 rfl 3 Tryd.underlying112 (G.I pid) _ _ rfl mig ?_; intro w0 hr0 hg0 hs0)
          have hC0 := HST.out w0 hr0 hg0
          clear hr0 hg0 hs0 mig hf hl a0 al af4 hmm c0 HST
          have hcell : ∀ cnt wr todo, FkR wA w.heap.size (G.I pid) s q.ig cnt wr todo → wr.heap[w.heap.size + 1 + 1]? = some (.cells #[.int .i64 pid, .int .i64 1, .int .i64 0, .map (some w.heap.size), .map (some (w.heap.size + 1))] 114) ∧ wr.heap[t]? = some (.cells #[.map (some G.g)] 117) ∧ wA.heap.size < wr.heap.size := fun cnt wr todo e => by
            have hA := HSZ.out
            have htl := h.lt t (by rw [h.kt]; rfl)
            exact ⟨(e.wt.block _ (by omega) (by omega)).trans HBL.out, ((e.wt.block _ (by omega) (by omega)).trans (HBA.out.block _ htl)).trans h.head, e.rng.rlt⟩
          have HCE : Aside _ := hcell
          clear hcell hwA
          go_loopg [8] s (fun mm s8 wr => ∃ todo, FkR wA w.heap.size (G.I pid) s q.ig mm wr todo)
          case atStart => exact ⟨_, hC0⟩
          case round =>
            clear hC0
            obtain ⟨todo, e⟩ := hrel
            have hrg := e.rng
            obtain ⟨b1, b2, b3⟩ := HCE.out _ _ _ e
            go_wp2_with (at_next; refine wpList_knext rfl _ rfl (G.I pid) wA.heap.size _ _ _ _ rfl hrg ?_ ?_)
            · intro hl
              obtain ⟨w5, hrun, hR⟩ := e.done h hru hk hkl HBA.out HSZ.out hq HP0.out hl
              have d0 : wr.cell? ⟨w.heap.size + 1 + 1, 0, none⟩ = some (.int .i64 pid) := by rw [cell_of_row _ _ _ _ _ _ b1]; rfl
              have d1 : wr.cell? ⟨w.heap.size + 1 + 1, 1, none⟩ = some (.int .i64 1) := by rw [cell_of_row _ _ _ _ _ _ b1]; rfl
              have d2 : wr.cell? ⟨w.heap.size + 1 + 1, 2, none⟩ = some (.int .i64 0) := by rw [cell_of_row _ _ _ _ _ _ b1]; rfl
              have d3 : wr.cell? ⟨w.heap.size + 1 + 1, 3, none⟩ = some (.map (some w.heap.size)) := by rw [cell_of_row _ _ _ _ _ _ b1]; rfl
              have d4 : wr.cell? ⟨w.heap.size + 1 + 1, 4, none⟩ = some (.map (some (w.heap.size + 1))) := by rw [cell_of_row _ _ _ _ _ _ b1]; rfl
              have d5 : wr.cell? ⟨t, 0, none⟩ = some (.map (some G.g)) := by rw [cell_of_row _ _ _ _ _ _ b2]; rfl
              clear hrg e hl b1 b2
              go_upto_region 13 with fail
              go_region
              all_goals
                go_wp2_with fail
                go_ret2
                exact ⟨rfl, hR⟩
            · intro x v w1 cnt1 hwx htx hMx hrg1 hlt hg1 hs1 hen
              obtain ⟨hfx, rfl⟩ := sv_some hMx
              obtain ⟨w5, hrun, h5⟩ := e.step HSZ.out (by have := h.lt (G.I pid) (by rw [h.ki pid (by rw [hq]; rfl)]; rfl); exact this) (h.ok.ig pid q hq) hfx hrg1 hg1
              have d4 : w1.cell? ⟨w.heap.size + 1 + 1, 4, none⟩ = some (.map (some (w.heap.size + 1))) := by
                have hA := HSZ.out
                rw [World.cell?_of_block (w := wr) (a := ⟨w.heap.size + 1 + 1, 4, none⟩) (hg1.block (w.heap.size + 1 + 1) (by omega) (fun z => by have := Option.some.inj z; omega)), cell_of_row _ _ _ _ _ _ b1]; rfl
              clear hrg e hMx hrg1 hg1 hs1 b1 b2
              go_wp2_with fail
              go_roundg cnt1
              case measure => exact hlt
              case rel => exact ⟨_, h5⟩
        · have hsm := hk.all x (by omega) (by omega)
          obtain ⟨qx, hqx⟩ := Option.isSome_iff_exists.1 hsm
          have hl := h.lookS hqx (wf64 (by omega))
          have hst : qx.state = 1 ∨ qx.state = 2 := h.ok.st x qx hqx
          obtain ⟨-, hf, -, -⟩ := prv_f qx.parent qx.state qx.code (some (G.W x)) (some (G.I x)) w
          have hs0 : (qx.state == 0) = false := by simp; omega
          have hs1 : ¬ qx.state = 0 := by omega
          clear hst
          go_wp2_with fail
          go_roundg (gk - 1)
          case measure => omega
          case rel => exact ⟨x + 1, by omega, by omega, by omega, by go_num, rfl⟩
end
end Go.Proofs.YtidinhbokkelnabDoor

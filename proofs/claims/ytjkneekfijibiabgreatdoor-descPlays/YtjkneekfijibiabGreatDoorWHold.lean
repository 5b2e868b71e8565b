/- The document's own tree: the sweep, by its Go text. -/
import Derived.Test.YtjkneekfijibiabGreatDoorWSweep
namespace Go.Proofs.YtjkneekfijibiabGreatDoor
open Go.RowKit Go.Maps

section
variable {w w' : World} {r gN s : Nat} {T : Wd} {G : Int → Nat}

/-- The nodes when some are gone: those that are still to come, and those that stay. -/
theorem below_grown {B g : Nat} {w1 : World} (h : Below B w w1) (hB : B ≤ w1.heap.size) (hg : w1.grownBy w' (some g)) (hgB : B ≤ g) : Below B w w' := h.grown hg hB (fun k e => by rw [← Option.some.inj e]; exact hgB)

theorem PRng.as {g i n cnt : Nat} {M M' : Int → Option Value} {todo todo' : Int → Bool} (h : PRng w g i n M todo cnt) (e : M = M') (e' : todo = todo') : PRng w g i n M' todo' cnt := e ▸ e' ▸ h
open Classical in
noncomputable def keepT (T : Wd) (todo : Int → Bool) : Wd := fun k => if todo k = true then T k else sweepT T k
theorem keepT_start (T : Wd) (G : Int → Nat) : keepT T (fun k => ((T k).map (ndv G k)).isSome) = T := by
  funext k; unfold keepT
  cases e : T k with
  | none =>
    have e2 : sweepT T k = none := by unfold sweepT; rw [e]
    rw [e2]; split <;> rfl
  | some nd => rw [if_pos (by simp [e])]
theorem keepT_end {T : Wd} {todo : Int → Bool} (h : ∀ x, todo x = false) : keepT T todo = sweepT T := by
  funext k; unfold keepT; simp [h k]
theorem keepT_at {T : Wd} {todo : Int → Bool} {x : Int} (h : todo x = true) : keepT T todo x = T x := by unfold keepT; rw [if_pos h]
theorem keepT_stay {T : Wd} {todo : Int → Bool} {x : Int} (hx : todo x = true) (h : sweepT T x = T x) : keepT T (fun z => todo z && !decide (z = x)) = keepT T todo := by
  funext k; unfold keepT
  by_cases e : k = x
  · subst e; simp [hx, h]
  · simp [e]
theorem keepT_go {T : Wd} {todo : Int → Bool} {x : Int} (h : sweepT T x = none) : (fun i => if i = x then none else (keepT T todo i).map (ndv G i)) = fun i => (keepT T (fun z => todo z && !decide (z = x)) i).map (ndv G i) := by
  funext k; unfold keepT
  by_cases e : k = x
  · subst e; simp [h]
  · simp [e]
theorem grown_then {g a : Nat} {w1 : World} (h : w.grownBy w1 (some a)) (k : w1.grownBy w' (some g)) (hg : g = a ∨ w.heap.size ≤ g) : w.grownBy w' (some a) :=
  ⟨k.os.trans h.os, k.tape.trans h.tape, k.output.trans h.output, Nat.le_trans h.size k.size, fun i hi hne => (k.block i (Nat.lt_of_lt_of_le hi h.size) (fun e => by
    have := Option.some.inj e
    rcases hg with e1 | e1
    · exact hne (by rw [this, e1])
    · omega)).trans (h.block i hi hne)⟩

set_option maxRecDepth 100000 in
set_option maxHeartbeats 8000000 in
theorem RTr.sweep_ok (h : RTr w r gN s T G) (hT : TrOk T) (hs : s ≤ 1000) (hC : ∀ k C, T k = some (.dir C) → C.length ≤ 1000) :
    Calls Tryz.prog 97 #[wp r] w fun e w' => e = .returned (.tuple #[]) ∧ ∃ s', RTr w' r gN s' (sweepT T) G ∧ Wt (town r gN T G) w w' := by
  have hmm := @run_makeMap Tryz.prog
  obtain ⟨w0, hrun, pm0, g0⟩ := (PMap.made w).put Tryz.underlying85 (by unfold maxLen; omega) 0 (by decide) (.int .i64 1)
  have b0 : Below w.heap.size w w0 := below_grown ((Below.refl _ w).alloc (Nat.le_refl _) _) (by show _ ≤ (w.heap.push _).size; rw [Array.size_push]; omega) g0 (Nat.le_refl _)
  have hL0 : w.heap.size < w0.heap.size := Nat.lt_of_lt_of_le (by show _ < (w.heap.push _).size; rw [Array.size_push]; omega) g0.size
  have h0 := h.below b0
  have c0 := h0.c0
  have hmap0 := h0.map
  obtain ⟨gL, hgL⟩ : ∃ gL, w.heap.size = gL := ⟨_, rfl⟩
  have hpm : PMap w0 gL 1 (cm (fun i => if i = 0 then 1 else 0)) := by
    have e : (fun i => if i = (0 : Int) then some (Value.int .i64 1) else (fun _ => none) i) = cm (fun i => if i = 0 then 1 else 0) := by
      funext i; unfold cm; by_cases e : i = 0 <;> simp [e]
    rw [← e, ← hgL]; exact pm0
  have hcn : Cnt T (fun k => ((T k).map (ndv G k)).isSome) (fun i => if i = 0 then 1 else 0) := fun n => by
    constructor
    · intro e; by_cases e0 : n = 0
      · exact .inl e0
      · simp [e0] at e
    · rintro (e | ⟨k, C, x, e1, e2, _⟩)
      · simp [e]
      · simp [e1] at e2
  clear pm0 g0 h0
  rw [hgL] at hL0 hrun
  go_enter Tryz.func97, Tryz.ntmps97
  go_wp2_with (at_range; refine wpList_krange rfl _ 33 rfl 113 Tryz.underlying33 gN _ _ rfl hmap0 ?_; intro w1 hr1 hg1 hs1)
  go_frame
  have b1 : Below w.heap.size w w1 := b0.trans (Below.mono ⟨hg1.os, hg1.tape, hg1.output, hg1.size, fun i hi => hg1.block i hi (by simp)⟩ b0.size)
  have hpm1 : PMap w1 gL 1 (cm (fun i => if i = 0 then 1 else 0)) := hpm.keep (hg1.block gL hL0 (by simp))
  obtain ⟨it, hit⟩ : ∃ it, w0.heap.size = it := ⟨_, rfl⟩
  rw [hit] at hr1 hL0 ⊢
  have hiN : gN < gL := by rw [← hgL]; exact h.map.lt
  clear hpm hg1 hs1 hmap0 c0 b0 hrun hit
  go_loopg [4] s (fun mm _ wr => ∃ todo c sL, PRng wr gN it s (fun k => (T k).map (ndv G k)) todo mm ∧ PMap wr gL sL (cm c) ∧ Cnt T todo c ∧ (∀ n, c n + 1000 * mm ≤ 1 + 1000 * s) ∧ sL + 1000 * mm ≤ 1 + 1000 * s ∧ Below w.heap.size w wr)
  case atStart => exact ⟨_, _, 1, hr1, hpm1, hcn, fun n => by split <;> omega, by omega, b1⟩
  case round =>
    clear hr1 b1 hpm1 hcn
    obtain ⟨todo, c, sL, hrg, hpm, hcn, hcb, hsL, b2⟩ := hrel
    go_wp2_with (at_next; refine wpList_knext rfl _ rfl gN it _ _ _ _ rfl hrg ?_ ?_)
    · intro hl
      have h2 := h.below b2
      have c0 := h2.c0
      have hmap := h2.map
      have hLl := hpm.lt
      have hled := hcn.led hl
      have hcb2 : ∀ n, c n ≤ 1 + 1000 * s := fun n => by have := hcb n; omega
      have gw2 : w.grownBy wr (some gN) := gby_below b2
      clear hrg hcn hcb hsL h2 b2
      go_wp2_with (at_range; refine wpList_krange rfl _ 33 rfl 113 Tryz.underlying33 gN _ _ rfl hmap ?_; intro w3 hr3 hg3 hs3)
      go_frame
      obtain ⟨it3, hit3⟩ : ∃ it3, wr.heap.size = it3 := ⟨_, rfl⟩
      rw [hit3] at hr3 hLl ⊢
      have gw3 : w.grownBy w3 (some gN) := grown_then gw2 (hg3.but (some gN)) (.inl rfl)
      have hpm3 : PMap w3 gL sL (cm c) := hpm.keep (hg3.block gL hpm.lt (by simp))
      have c3 : w3.cell? ⟨r, 0, none⟩ = some (.map (some gN)) := by rw [← c0]; exact World.cell?_of_block (hg3.block r (World.block_lt_of_cell? _ _ c0) (by simp))
      clear hmap c0 gw2 hpm hg3 hs3 hit3
      go_loopg [7] s (fun mm _ wq => ∃ todo s', PRng wq gN it3 s' (fun k => (keepT T todo k).map (ndv G k)) todo mm ∧ PMap wq gL sL (cm c) ∧ wq.cell? ⟨r, 0, none⟩ = some (.map (some gN)) ∧ w.grownBy wq (some gN))
      case atStart => exact ⟨_, s, by rw [keepT_start]; exact hr3, hpm3, c3, gw3⟩
      case round =>
        clear hr3 hpm3 c3 gw3
        obtain ⟨todo', s', hrg, hpm, c0, gw⟩ := hrel
        go_wp2_with (at_next; refine wpList_knext rfl _ rfl gN it3 _ _ _ _ rfl hrg ?_ ?_)
        · intro hl3
          have hfin := h.sub (T' := sweepT T) (fun k nd e => sweepT_sub e) gw (by have := hrg.map; rw [keepT_end hl3] at this; exact this)
          clear hrg hpm
          go_wp2_with fail
          go_end0
          exact ⟨rfl, s', hfin, .grown gw (.inr (.inl rfl))⟩
        · intro x v w4 cnt4 hwx htx nd hn hv hrg4 hlt4 hg4 hs4 hen
          subst hv
          rw [keepT_at htx] at hn
          have hitl := hrg.rlt
          obtain ⟨vm, vb, vt, hvv⟩ : ∃ vm vb vt, ndv G x nd = .agg #[.map vm, .bool vb, tx vt, .int .i64 (heldT nd : Int)] := by
            cases nd with
            | dir C => exact ⟨_, _, _, rfl⟩
            | file b x => exact ⟨_, _, _, rfl⟩
          rw [hvv] at hen
          have hcm := cm_get c x
          have hlx := hled x
          have hcx := hcb2 x
          have hst : (c x = 0 ∧ heldT nd = 0 → sweepT T x = none) ∧ (¬ (c x = 0 ∧ heldT nd = 0) → sweepT T x = T x) := by
            refine ⟨fun ⟨e1, e2⟩ => sweepT_go hn (fun e => ?_), fun e => sweepT_stay (fun nd' e' => ?_)⟩
            · rcases e with e | e
              · exact hlx.2 e e1
              · exact e e2
            · rw [hn] at e'; cases e'
              by_cases e1 : c x = 0
              · exact .inr (fun e2 => e ⟨e1, e2⟩)
              · exact .inl (hlx.1 e1)
          have hhb : heldT nd ≤ 1000 := by
            cases nd with
            | dir C => exact Nat.zero_le _
            | file b y => exact (hT.small x b y hn).2
          obtain ⟨cx, hcx'⟩ : ∃ cx, c x = cx := ⟨_, rfl⟩
          obtain ⟨hd, hhd⟩ : ∃ hd, heldT nd = hd := ⟨_, rfl⟩
          rw [hcx'] at hcm hcx hst
          rw [hhd] at hhb hst hen
          have gA : w.grownBy w4 (some gN) := grown_then gw hg4 (.inr (by omega))
          have hpm4 := hpm.keep (w' := w4) (hg4.block _ hpm.lt (fun e => by have := Option.some.inj e; omega))
          have c4 : w4.cell? ⟨r, 0, none⟩ = some (.map (some gN)) := by rw [← c0]; exact World.cell?_of_block (hg4.block r (World.block_lt_of_cell? _ _ c0) (fun e => by have := Option.some.inj e; have := h.lt (.inl rfl : town r gN T G r); omega))
          have hrgA := hrg4.keep (w' := w4.alloc (.cells #[.map vm, .bool vb, tx vt, .int .i64 (hd : Int)] 113)) (Below.heap_alloc _ _ _ hrg4.map.lt) (Below.heap_alloc _ _ _ hrg4.rlt)
          have hpmA := hpm4.keep (w' := w4.alloc (.cells #[.map vm, .bool vb, tx vt, .int .i64 (hd : Int)] 113)) (Below.heap_alloc _ _ _ hpm4.lt)
          have cA : (w4.alloc (.cells #[.map vm, .bool vb, tx vt, .int .i64 (hd : Int)] 113)).cell? ⟨r, 0, none⟩ = some (.map (some gN)) := by rw [← c4]; exact World.cell?_of_block (Below.heap_alloc _ _ _ (World.block_lt_of_cell? _ _ c4))
          have gB : w.grownBy (w4.alloc (.cells #[.map vm, .bool vb, tx vt, .int .i64 (hd : Int)] 113)) (some gN) := ⟨gA.os, gA.tape, gA.output, Nat.le_trans gA.size (by show _ ≤ (w4.heap.push _).size; rw [Array.size_push]; omega), fun i hi hne => (Below.heap_alloc _ _ _ (Nat.lt_of_lt_of_le hi gA.size)).trans (gA.block i hi hne)⟩
          clear hrg hpm c0 gw hg4 hrg4 hpm4 gA hvv hlx hled hcb2
          by_cases hgo : cx = 0 ∧ hd = 0
          · obtain ⟨rfl, rfl⟩ := hgo
            have hsw := hst.1 ⟨rfl, rfl⟩
            have e0 : ((0 : Nat) : Int) = 0 := rfl
            rw [e0] at hrgA hpmA cA gB hen hcm
            have hkg := keepT_go (G := G) (todo := todo') hsw
            have hss : (fun z => todo' z && !decide (z = x) && !decide (z = x)) = fun z => todo' z && !decide (z = x) := by funext z; cases todo' z <;> simp
            clear hst e0 c4
            go_upto_region 12 with (at_lookup; refine wpList_klook rfl _ _ 85 rfl 3 Tryz.underlying85 _ (zero_num _) gL _ _ rfl hpmA x rfl hwx ?_; rw [hcm])
            obtain ⟨w5, hw5⟩ : ∃ w5, w4.alloc (.cells #[.map vm, .bool vb, tx vt, .int .i64 0] 113) = w5 := ⟨_, rfl⟩
            rw [hw5] at hrgA hpmA cA gB ⊢
            clear hw5 hen hs4
            go_wp2_with (at_delete; refine wpList_kdelr rfl _ _ 33 rfl 113 Tryz.underlying33 gN it3 _ _ _ _ rfl hrgA x rfl hwx ?_; intro w6 cnt6 hrg6 hle6 hg6)
            have hrg7 := hrg6.as hkg hss
            have hpm6 := hpmA.keep (w' := w6) (hg6.block _ hpmA.lt (fun e => by have := Option.some.inj e; omega))
            have c6 : w6.cell? ⟨r, 0, none⟩ = some (.map (some gN)) := by rw [← cA]; exact World.cell?_of_block (hg6.block r (World.block_lt_of_cell? _ _ cA) (fun e => h.rne (Option.some.inj e)))
            have g6 : w.grownBy w6 (some gN) := grown_then gB hg6 (.inl rfl)
            clear hrg6 hrgA hpmA cA gB hg6
            go_roundg cnt6
            case measure => omega
            case rel => exact ⟨_, _, hrg7, hpm6, c6, g6⟩
          · have hsw := hst.2 hgo
            have hks := keepT_stay htx hsw
            clear hst
            by_cases hc0 : cx = 0
            · have hd0 : ¬ hd = 0 := fun e => hgo ⟨hc0, e⟩
              subst hc0
              have hdq : ¬ (hd : Int) = 0 := by omega
              go_wp2_with (at_lookup; refine wpList_klook rfl _ _ 85 rfl 3 Tryz.underlying85 _ (zero_num _) gL _ _ rfl hpmA x rfl hwx ?_; rw [hcm])
              go_roundg cnt4
              case measure => exact hlt4
              case rel => exact ⟨_, s', by rw [hks]; exact hrgA, hpmA, cA, gB⟩
            · have hcq : ¬ (cx : Int) = 0 := by omega
              go_wp2_with (at_lookup; refine wpList_klook rfl _ _ 85 rfl 3 Tryz.underlying85 _ (zero_num _) gL _ _ rfl hpmA x rfl hwx ?_; rw [hcm])
              go_roundg cnt4
              case measure => exact hlt4
              case rel => exact ⟨_, s', by rw [hks]; exact hrgA, hpmA, cA, gB⟩
    · intro x v w1 cnt1 hwx htx nd hn hv hrg1 hlt hg1 hs1 hen
      subst hv
      have hitl := hrg.rlt
      have hLl := hpm.lt
      have b3 : Below w.heap.size w w1 := below_grown b2 b2.size hg1 (by omega)
      have hpm1 : PMap w1 gL sL (cm c) := hpm.keep (hg1.block gL hLl (fun e => by have := Option.some.inj e; omega))
      clear hrg hpm hg1 b2
      cases nd with
      | file fb fx =>
        simp only [ndv] at hen
        have hc2 := hcn.file hn
        have hrgn : ∀ wx : World, (Instr.range 111 (.map none)).run Tryz.prog wx = _ := fun wx => run_range_nilMap wx 111 9 3 Tryz.underlying111
        have bA : Below w.heap.size w (w1.alloc (.cells #[.map none, .bool false, tx fb, .int .i64 (fx : Int)] 113)) := b3.alloc b3.size _
        have hrgA := hrg1.keep (w' := w1.alloc (.cells #[.map none, .bool false, tx fb, .int .i64 (fx : Int)] 113)) (Below.heap_alloc _ _ _ (by have := hpm1.lt; omega)) (Below.heap_alloc _ _ _ hrg1.rlt)
        have hpmA := hpm1.keep (w' := w1.alloc (.cells #[.map none, .bool false, tx fb, .int .i64 (fx : Int)] 113)) (Below.heap_alloc _ _ _ hpm1.lt)
        clear b3 hrg1 hpm1
        have hnx : ∀ ty, (Instr.next (.pointer (some ⟨wr.heap.size + 1, 0, none⟩)) false ty).run Tryz.prog ((w1.alloc (.cells #[.map none, .bool false, tx fb, .int .i64 (fx : Int)] 113)).alloc (.mapIter none 0 #[] 0)) = .ok (.tuple #[.bool false]) ((w1.alloc (.cells #[.map none, .bool false, tx fb, .int .i64 (fx : Int)] 113)).alloc (.mapIter none 0 #[] 0)) := fun ty => by
          have := run_next_nilMap (P := Tryz.prog) (w1.alloc (.cells #[.map none, .bool false, tx fb, .int .i64 (fx : Int)] 113)) ty 0 0 #[]
          rw [show (w1.alloc (.cells #[.map none, .bool false, tx fb, .int .i64 (fx : Int)] 113)).heap.size = wr.heap.size + 1 by show (w1.heap.push _).size = _; rw [Array.size_push, hs1]] at this
          exact this
        have bI := bA.alloc bA.size (.mapIter none 0 #[] 0)
        have hrgI := hrgA.keep (w' := World.alloc _ (.mapIter none 0 #[] 0)) (Below.heap_alloc _ _ _ (by have := hpmA.lt; omega)) (Below.heap_alloc _ _ _ hrgA.rlt)
        have hpmI := hpmA.keep (w' := World.alloc _ (.mapIter none 0 #[] 0)) (Below.heap_alloc _ _ _ hpmA.lt)
        clear bA hrgA hpmA
        go_upto_region 5 with fail
        obtain ⟨wI, hwI⟩ : ∃ wI, (w1.alloc (.cells #[.map none, .bool false, tx fb, .int .i64 (fx : Int)] 113)).alloc (.mapIter none 0 #[] 0) = wI := ⟨_, rfl⟩
        rw [hwI] at hnx bI hrgI hpmI ⊢
        clear hwI hen hrgn
        go_loopg [6] 0 (fun _ _ wq => wq = wI)
        case atStart => rfl
        case round =>
          subst hrel
          go_wp2_with fail
          go_roundg cnt1
          case measure => exact hlt
          case rel => exact ⟨_, c, sL, hrgI, hpmI, hc2, fun n => by have := hcb n; omega, by omega, bI⟩
      | dir C =>
        simp only [ndv] at hen
        have hCl := hC x C hn
        have hsm := (h.below b3).dirs x C hn
        have hGl : G x < gL := by rw [← hgL]; exact (h.dirs x C hn).lt
        have hGN := h.sep x C hn
        have bA : Below w.heap.size w (w1.alloc (.cells #[.map (some (G x)), .bool true, tx [], .int .i64 0] 113)) := b3.alloc b3.size _
        have hrgA := hrg1.keep (w' := w1.alloc (.cells #[.map (some (G x)), .bool true, tx [], .int .i64 0] 113)) (Below.heap_alloc _ _ _ (by have := hpm1.lt; omega)) (Below.heap_alloc _ _ _ hrg1.rlt)
        have hpmA := hpm1.keep (w' := w1.alloc (.cells #[.map (some (G x)), .bool true, tx [], .int .i64 0] 113)) (Below.heap_alloc _ _ _ hpm1.lt)
        have hsmA := hsm.keep (w' := w1.alloc (.cells #[.map (some (G x)), .bool true, tx [], .int .i64 0] 113)) (Below.heap_alloc _ _ _ hsm.lt)
        have hszA : (w1.alloc (.cells #[.map (some (G x)), .bool true, tx [], .int .i64 0] 113)).heap.size = wr.heap.size + 1 := by show (w1.heap.push _).size = _; rw [Array.size_push, hs1]
        clear b3 hrg1 hpm1 hsm
        go_upto_region 5 with (at_range; refine wpList_srange rfl _ 111 rfl 3 Tryz.underlying111 (G x) _ _ rfl hsmA ?_; intro w2 hr2 hg2 hs2)
        go_frame
        have hb2 := hg2.block
        rw [hszA] at hr2 ⊢
        obtain ⟨it2, hit2⟩ : ∃ it2, wr.heap.size + 1 = it2 := ⟨_, rfl⟩
        rw [hit2] at hr2 ⊢
        have b4 : Below w.heap.size w w2 := bA.grown hg2 bA.size (fun k e => by cases e)
        have hrg2 := hrgA.keep (w' := w2) (hg2.block _ hrgA.map.lt (by simp)) (hg2.block _ hrgA.rlt (by simp))
        have hpm2 := hpmA.keep (w' := w2) (hg2.block _ hpmA.lt (by simp))
        have hit2g : gL < it2 ∧ it < it2 := by have := hrgA.rlt; rw [hszA] at this; omega
        have hc1 := hcn.start (C := C)
        clear bA hrgA hpmA hsmA hszA hg2 hs2 hb2 hit2 hen
        go_loopg [6] C.length (fun mi _ wq => ∃ left c' sL', SRng wq (G x) it2 C.length (fun nm => (C.lookup nm).map (.int .i64 ·)) left mi ∧ PRng wq gN it s (fun k => (T k).map (ndv G k)) (fun z => todo z && !decide (z = x)) cnt1 ∧ PMap wq gL sL' (cm c') ∧ Cnt1 T todo C left c' ∧ (∀ n, c' n + mi + 1000 * cnt1 ≤ 1 + 1000 * s) ∧ sL' + mi + 1000 * cnt1 ≤ 1 + 1000 * s ∧ Below w.heap.size w wq)
        case atStart => exact ⟨_, c, sL, hr2, hrg2, hpm2, hc1, fun n => by have := hcb n; omega, by omega, b4⟩
        case round =>
          clear hr2 hrg2 hpm2 hc1 b4 hcn hcb hsL
          obtain ⟨left, c', sL', hsr, hrg, hpm, hcn, hcb, hsL, b5⟩ := hrel
          go_wp2_with (at_next; refine wpList_snext rfl _ rfl (G x) it2 _ _ _ _ rfl hsr ?_ ?_)
          · intro hl
            have hc3 := hcn.stop hn hl
            clear hsr
            go_wp2_with fail
            go_roundg cnt1
            case measure => exact hlt
            case rel => exact ⟨_, c', sL', hrg, hpm, hc3, fun n => by have := hcb n; omega, by omega, b5⟩
          · intro y v w3 cnt2 hwy hty m hm hv hsr3 hlt2 hg3 hs3 hen
            subst hv
            have hkm := hT.key m (hT.child x C y m hn hm)
            have hwm : (Lit.int .i64 m).wf = true := wf_few hkm.1 (by omega)
            have hcm := cm_get c' m
            have hcbm := hcb m
            have hc4 := hcn.step hm
            have b6 : Below w.heap.size w w3 := below_grown b5 b5.size hg3 (by omega)
            have hrg3 := hrg.keep (w' := w3) (hg3.block _ hrg.map.lt (fun e => by have := Option.some.inj e; omega)) (hg3.block _ hrg.rlt (fun e => by have := Option.some.inj e; omega))
            have hpm3 := hpm.keep (w' := w3) (hg3.block _ hpm.lt (fun e => by have := Option.some.inj e; omega))
            have hsLm : sL' < maxLen := by unfold maxLen; omega
            obtain ⟨cc, hcc⟩ : ∃ cc, c' m = cc := ⟨_, rfl⟩
            rw [hcc] at hcm hcbm
            clear hsr hrg hpm hg3 b5 hcn
            go_wp2_with (first
              | (at_lookup; refine wpList_klook rfl _ _ 85 rfl 3 Tryz.underlying85 _ (zero_num _) gL _ _ rfl hpm3 m rfl hwm ?_; rw [hcm])
              | (refine wpList_kput rfl _ _ _ 85 rfl 3 Tryz.underlying85 gL _ _ rfl hpm3 hsLm m rfl hwm _ rfl ?_; intro w4 pm4 g4))
            have e4 := cm_put c' m
            rw [hcc] at e4
            have pm5 : PMap w4 gL _ (cm (fun i => if i = m then cc + 1 else c' i)) := e4 ▸ pm4
            rw [hcc] at hc4
            have b7 : Below w.heap.size w w4 := below_grown b6 b6.size g4 (by omega)
            have hrg4 := hrg3.keep (w' := w4) (g4.block _ hrg3.map.lt (fun e => by have := Option.some.inj e; omega)) (g4.block _ hrg3.rlt (fun e => by have := Option.some.inj e; omega))
            have hsr4 := hsr3.keep (w' := w4) (g4.block _ hsr3.map.lt (fun e => by have := Option.some.inj e; omega)) (g4.block _ hsr3.rlt (fun e => by have := Option.some.inj e; omega))
            clear hpm3 hrg3 hsr3 pm4 b6 g4
            go_roundg cnt2
            case measure => exact hlt2
            case rel => exact ⟨_, _, _, hsr4, hrg4, pm5, hc4, fun n => by have := hcb n; split <;> omega, by split <;> omega, b7⟩
end
end Go.Proofs.YtjkneekfijibiabGreatDoor

namespace Go.Proofs.YtjkneekfijibiabGreatDoor
open Go.RowKit Go.Maps

section
variable {w w' : World} {r gN s : Nat} {T : Wd} {G : Int → Nat}
/-- A name taken. -/
theorem RTr.del (h : RTr w r gN s T G) (hT : TrOk T) {d : Int} {nm : Nm} {C : List (Nm × Int)} (hd : T d = some (.dir C)) (hyes : (C.lookup nm).isSome = true) (hg : w.grownBy w' (some (G d)))
    (sm : SMap w' (G d) (if ((C.lookup nm).map (Value.int .i64 ·)).isSome then C.length - 1 else C.length) (fun i => if i = nm then none else (C.lookup i).map (.int .i64 ·))) : RTr w' r gN s (delT T d nm) G := by
  have hk : ∀ i, i < w.heap.size → i ≠ G d → w'.heap[i]? = w.heap[i]? := fun i hi hne => hg.block i hi (fun e => hne (Option.some.inj e))
  have hrG : r ≠ G d := by
    intro e
    obtain ⟨es, cl, hm⟩ := (h.dirs d C hd).isMap
    rw [← e, h.head] at hm; cases hm
  rw [delT_eq hd]
  have hold : ∀ k D, setT T d (.dir (C.filter (fun x => x.1 != nm))) k = some (.dir D) → (k = d ∧ D = C.filter (fun x => x.1 != nm)) ∨ (k ≠ d ∧ T k = some (.dir D)) := fun k D e => by
    by_cases e1 : k = d
    · subst e1; rw [setT_same] at e; cases e; exact .inl ⟨rfl, rfl⟩
    · rw [setT_other _ e1] at e; exact .inr ⟨e1, e⟩
  have hsome : ∀ k D, setT T d (.dir (C.filter (fun x => x.1 != nm))) k = some (.dir D) → ∃ D', T k = some (.dir D') := fun k D e => by
    rcases hold k D e with ⟨rfl, _⟩ | ⟨_, e⟩
    · exact ⟨C, hd⟩
    · exact ⟨D, e⟩
  refine ⟨(hk r (h.lt (.inl rfl)) hrG).trans h.head, ?_, ?_, fun k D e => ?_, fun k k' D D' e e' hG => ?_⟩
  · have e : (fun k => (setT T d (.dir (C.filter (fun x => x.1 != nm))) k).map (ndv G k)) = fun k => (T k).map (ndv G k) := by
      funext k; unfold setT; by_cases e1 : k = d
      · subst e1; simp [hd, ndv]
      · simp [e1]
    rw [e]
    exact h.map.keep (hk gN h.map.lt (fun e => h.sep d C hd e.symm))
  · intro k D e
    rcases hold k D e with ⟨rfl, rfl⟩ | ⟨e1, e⟩
    · rw [if_pos (by rw [Option.isSome_map]; exact hyes)] at sm
      rw [filter_len (hT.nodup k C hd) hyes]
      have e2 : (fun i => if i = nm then none else (C.lookup i).map (Value.int .i64 ·)) = fun i => ((C.filter (fun x => x.1 != nm)).lookup i).map (Value.int .i64 ·) := by
        funext i
        rw [lookup_del]
        by_cases ei : i = nm <;> simp [ei]
      rw [e2] at sm
      exact sm
    · exact (h.dirs k D e).keep (hk _ (h.dirs k D e).lt (fun e2 => e1 (h.inj k d D C e hd e2)))
  · obtain ⟨D', e'⟩ := hsome k D e
    exact h.sep k D' e'
  · obtain ⟨D1, e1⟩ := hsome k D e
    obtain ⟨D2, e2⟩ := hsome k' D' e'
    exact h.inj k k' D1 D2 e1 e2 hG
end
end Go.Proofs.YtjkneekfijibiabGreatDoor

namespace Go.Proofs.YtjkneekfijibiabGreatDoor
open Go.RowKit Go.Maps

section
variable {w w' : World} {r gN s : Nat} {T : Wd} {G : Int → Nat}
set_option maxRecDepth 100000 in
set_option maxHeartbeats 4000000 in
theorem RTr.unlink_ok (h : RTr w r gN s T G) (hT : TrOk T) (p : List UInt8) (hp : p.length < 100000) (m : Int) (hm : w.cell? ⟨2, 0, none⟩ = some (.int .i64 m)) (hs : s ≤ 1000) (hC : ∀ k C, T k = some (.dir C) → C.length ≤ 1000) :
    Calls Tryz.prog 37 #[wp r, tx p] w fun e w' => e = .returned (.int .i64 (unlinkE T p)) ∧ ∃ s', RTr w' r gN s' (unlinkN T p) G ∧ Wt (town r gN T G) w w' := by
  have hP := h.place_ok hT p hp m hm
  have hpl := placeT_dir hT (p := p)
  obtain ⟨E, hE⟩ : ∃ E, unlinkE T p = E := ⟨_, rfl⟩
  obtain ⟨N, hN⟩ : ∃ N, unlinkN T p = N := ⟨_, rfl⟩
  rw [hN]
  unfold unlinkN at hN
  rw [hE] at hN ⊢
  unfold unlinkE at hE
  generalize placeT T p = P at *
  obtain ⟨d, nm, z⟩ := P
  simp only at hE hN hpl hP
  by_cases hz : z = 0
  · subst hz
    rw [if_neg (fun e => e rfl)] at hE
    rw [if_pos rfl] at hP
    obtain ⟨⟨C, hd⟩, hnm⟩ := hpl rfl
    have hnl := isName_len hnm
    have hnx : nm.length ≤ maxLen := by unfold maxLen; omega
    rw [hasT_eq hd] at hE
    cases hlu : C.lookup nm with
    | none =>
      rw [hlu] at hE
      simp only at hE
      subst hE
      rw [if_pos (by omega)] at hN
      subst hN
      go_enter Tryz.func37, Tryz.ntmps37
      go_wp2_with fail
      refine hP.mono ?_
      rintro e w1 ⟨rfl, b1⟩
      have hSm := (h.below b1).dirs d C hd
      clear hP
      go_wp2_with (at_lookup; refine wpList_sask rfl _ _ 111 rfl 3 Tryz.underlying111 _ (zero_num _) (G d) _ _ rfl hSm nm rfl hnx ?_; simp only [hlu, Option.map_none, Option.getD_none, Option.isSome_none])
      go_ret
      exact ⟨rfl, s, h.below b1, .below _ b1⟩
    | some n =>
      rw [hlu] at hE
      simp only at hE
      have hns := hT.child d C nm n hd hlu
      have hkey := hT.key n hns
      have hwf : (Lit.int .i64 n).wf = true := wf_few hkey.1 (by omega)
      have hfin : ∀ w1, Below w.heap.size w w1 → E = 0 → ∀ w2, RTr w2 r gN s (delT T d nm) G → w1.grownBy w2 (some (G d)) →
          Calls Tryz.prog 97 #[wp r] w2 fun e w' => e = .returned (.tuple #[]) ∧ ∃ s', RTr w' r gN s' N G ∧ Wt (town r gN T G) w w' := fun w1 b1 hE0 w2 h2 g2 => by
        have hsw := h2.sweep_ok (hT.del d nm) hs (delT_len hC d nm)
        rw [if_neg (fun e => e hE0)] at hN
        subst hN
        refine hsw.mono ?_
        rintro e w3 ⟨rfl, s', h3, wt3⟩
        refine ⟨rfl, s', h3, ((Wt.below _ b1).trans (.grown g2 (.inr (.inr ⟨d, C, hd, rfl⟩)))).trans (wt3.mono fun i hi => ?_)⟩
        rcases hi with e | e | ⟨k, D, e, e2⟩
        · exact .inl e
        · exact .inr (.inl e)
        · obtain ⟨D', e'⟩ := delT_dir e
          exact .inr (.inr ⟨k, D', e', e2⟩)
      go_enter Tryz.func37, Tryz.ntmps37
      go_wp2_with fail
      refine hP.mono ?_
      rintro e w1 ⟨rfl, b1⟩
      have h1 := h.below b1
      have hSm := h1.dirs d C hd
      have c0 := h1.c0
      have hmap := h1.map
      clear hP
      cases hn : T n with
      | none => rw [hn] at hns; cases hns
      | some nd => cases nd with
        | dir D =>
          have hg := node_dir (G := G) hn
          have f0 := node_f0 (some (G n)) true [] 0
          have hSd := h1.dirs n D hn
          have hDl := hC n D hn
          have hmn : manyT T n = D.length := by unfold manyT; rw [hn]
          rw [hmn] at hE
          by_cases hD0 : D.length = 0
          · rw [if_neg (fun e => e hD0)] at hE
            subst hE
            rw [hD0] at hSd
            go_wp2_with (first
              | (at_lookup; refine wpList_sask rfl _ _ 111 rfl 3 Tryz.underlying111 _ (zero_num _) (G d) _ _ rfl hSm nm rfl hnx ?_; simp only [hlu, Option.map_some, Option.getD_some, Option.isSome_some])
              | (at_lookup; refine wpList_klook rfl _ _ 33 rfl 113 Tryz.underlying33 _ (zero_node _) gN _ _ rfl hmap n rfl hwf ?_; rw [hg])
              | (at_len; refine wpList_slen rfl _ 111 rfl 3 Tryz.underlying111 (G n) _ _ rfl hSd ?_)
              | (at_delete; refine wpList_sdel rfl _ _ 111 rfl 3 Tryz.underlying111 (G d) _ _ rfl hSm nm rfl hnx ?_; intro w2 sm2 g2))
            have h2 := h1.del hT hd (by rw [hlu]; rfl) g2 sm2
            have hsw := hfin w1 b1 (by trivial) w2 h2 g2
            clear hSm sm2 hSd hmap h1 h h2
            go_wp2_with fail
            refine hsw.mono ?_
            rintro e w3 ⟨rfl, s', h3, wt3⟩
            clear hsw hfin
            go_wp2_with fail
            go_ret
            exact ⟨rfl, s', h3, wt3⟩
          · rw [if_pos hD0] at hE
            subst hE
            rw [if_pos (by omega)] at hN
            subst hN
            have hDi : (0 : Int) < (D.length : Int) := by omega
            clear hfin
            go_wp2_with (first
              | (at_lookup; refine wpList_sask rfl _ _ 111 rfl 3 Tryz.underlying111 _ (zero_num _) (G d) _ _ rfl hSm nm rfl hnx ?_; simp only [hlu, Option.map_some, Option.getD_some, Option.isSome_some])
              | (at_lookup; refine wpList_klook rfl _ _ 33 rfl 113 Tryz.underlying33 _ (zero_node _) gN _ _ rfl hmap n rfl hwf ?_; rw [hg])
              | (at_len; refine wpList_slen rfl _ 111 rfl 3 Tryz.underlying111 (G n) _ _ rfl hSd ?_))
            go_ret
            exact ⟨rfl, s, h1, .below _ b1⟩
        | file fb fx =>
          have hg := node_file (G := G) hn
          have f0 := node_f0 none false fb (fx : Int)
          have hmn : manyT T n = 0 := by unfold manyT; rw [hn]
          rw [hmn, if_neg (fun e => e rfl)] at hE
          subst hE
          have hln : ∀ ty wx, (Builtin.len_ #[111] ty #[.map none]).run Tryz.prog wx = .ok (.int .i64 0) wx := fun ty wx => by kernel_rfl
          go_wp2_with (first
            | (at_lookup; refine wpList_sask rfl _ _ 111 rfl 3 Tryz.underlying111 _ (zero_num _) (G d) _ _ rfl hSm nm rfl hnx ?_; simp only [hlu, Option.map_some, Option.getD_some, Option.isSome_some])
            | (at_lookup; refine wpList_klook rfl _ _ 33 rfl 113 Tryz.underlying33 _ (zero_node _) gN _ _ rfl hmap n rfl hwf ?_; rw [hg])
            | (at_delete; refine wpList_sdel rfl _ _ 111 rfl 3 Tryz.underlying111 (G d) _ _ rfl hSm nm rfl hnx ?_; intro w2 sm2 g2))
          have h2 := h1.del hT hd (by rw [hlu]; rfl) g2 sm2
          have hsw := hfin w1 b1 (by trivial) w2 h2 g2
          clear hSm sm2 hmap h1 h h2
          go_wp2_with fail
          refine hsw.mono ?_
          rintro e w3 ⟨rfl, s', h3, wt3⟩
          clear hsw hfin
          go_wp2_with fail
          go_ret
          exact ⟨rfl, s', h3, wt3⟩
  · rw [if_pos hz] at hE
    subst hE
    rw [if_pos hz] at hN
    subst hN
    rw [if_neg hz] at hP
    have hq : (z == 0) = false := by simp [hz]
    go_enter Tryz.func37, Tryz.ntmps37
    go_wp2_with fail
    refine hP.mono ?_
    rintro e w1 ⟨rfl, b1⟩
    clear hP
    go_wp2_with fail
    go_ret
    exact ⟨rfl, s, h.below b1, .below _ b1⟩
end
end Go.Proofs.YtjkneekfijibiabGreatDoor

namespace Go.Proofs.YtjkneekfijibiabGreatDoor
open Go.RowKit Go.Maps

section
variable {w w' : World} {r gN s : Nat} {T : Wd} {G : Int → Nat}

set_option maxRecDepth 100000 in
set_option maxHeartbeats 4000000 in
theorem RTr.hold_ok (h : RTr w r gN s T G) (hT : TrOk T) (n by' : Int) (hw : (Lit.int .i64 n).wf = true) (hs : s ≤ 1000) (hC : ∀ k C, T k = some (.dir C) → C.length ≤ 1000) (hby : -1 ≤ by' ∧ by' ≤ 1) (hhx : ∀ b x, T n = some (.file b x) → x + 1 ≤ 1000) :
    Calls Tryz.prog 58 #[wp r, .int .i64 n, .int .i64 by'] w fun e w' => e = .returned (.int .i64 (holdE T n by')) ∧ ∃ s', RTr w' r gN s' (holdN T n by') G ∧ Wt (town r gN T G) w w' := by
  have hF := h.file_ok n hw
  by_cases hf : fileT T n = 0
  · obtain ⟨b, x, hn⟩ := fileT_zero hf
    rw [hf] at hF
    have hx1 := hhx b x hn
    have hbs := (hT.small n b x hn).1
    obtain ⟨hb0, hb1⟩ := hby
    by_cases hs0 : (x : Int) + by' < 0
    · have e1 : holdE T n by' = 10 := by unfold holdE; rw [hn]; simp only; rw [if_pos hs0]
      have e2 : holdN T n by' = T := by unfold holdN; rw [hn]; simp only; rw [if_pos hs0]
      rw [e1, e2]
      go_enter Tryz.func58, Tryz.ntmps58
      go_wp2_with fail
      refine hF.mono ?_
      rintro e w1 ⟨rfl, b1⟩
      have h1 := h.below b1
      have c0 := h1.c0
      have hmap := h1.map
      have hg := node_file (G := G) hn
      have bA : ∀ o, Below w.heap.size w (w1.alloc o) := fun o => b1.alloc b1.size o
      clear hF
      go_wp2_with (at_lookup; refine wpList_klook rfl _ _ 33 rfl 113 Tryz.underlying33 _ (zero_node _) gN _ _ rfl hmap n rfl hw ?_; rw [hg])
      go_ret
      exact ⟨rfl, s, h.below (bA _), .below _ (bA _)⟩
    · obtain ⟨x', hx'⟩ : ∃ x' : Nat, (x : Int) + by' = (x' : Int) := ⟨((x : Int) + by').toNat, by omega⟩
      have hxx : x' ≤ 1000 := by omega
      have e1 : holdE T n by' = 0 := by unfold holdE; rw [hn]; simp only; rw [if_neg hs0]
      have e2 : holdN T n by' = sweepT (setT T n (.file b x')) := by unfold holdN; rw [hn]; simp only; rw [if_neg hs0, hx']; rfl
      rw [e1, e2]
      have hTn := hT.setF hn hbs hxx (b' := b) (x' := x')
      have hCn : ∀ k C, setT T n (.file b x') k = some (.dir C) → T k = some (.dir C) := fun k C e => by
        by_cases e1 : k = n
        · subst e1; rw [setT_same] at e; cases e
        · rw [setT_other _ e1] at e; exact e
      go_enter Tryz.func58, Tryz.ntmps58
      go_wp2_with fail
      refine hF.mono ?_
      rintro e w1 ⟨rfl, b1⟩
      have h1 := h.below b1
      have c0 := h1.c0
      have hmap := h1.map
      have hg := node_file (G := G) hn
      have bA : Below w.heap.size w (w1.alloc (.cells #[.map none, .bool false, tx b, .int .i64 (x : Int)] 113)) := b1.alloc b1.size _
      have hnew : (w1.alloc (.cells #[.map none, .bool false, tx b, .int .i64 (x : Int)] 113)).heap[w1.heap.size]? = some (.cells #[.map none, .bool false, tx b, .int .i64 (x : Int)] 113) := by
        show (w1.heap.push _)[w1.heap.size]? = _
        rw [Array.getElem?_push, if_pos rfl]
      obtain ⟨i0, hi0⟩ : ∃ i0, w1.heap.size = i0 := ⟨_, rfl⟩
      have hi : w.heap.size ≤ i0 := by rw [← hi0]; exact b1.size
      go_upto_region 5 with (at_lookup; refine wpList_klook rfl _ _ 33 rfl 113 Tryz.underlying33 _ (zero_node _) gN _ _ rfl hmap n rfl hw ?_; rw [hg])
      obtain ⟨w2, hw2⟩ : ∃ w2, w1.alloc (.cells #[.map none, .bool false, tx b, .int .i64 (x : Int)] 113) = w2 := ⟨_, rfl⟩
      rw [hw2, hi0] at hnew
      rw [hw2] at bA
      rw [hw2]
      try rw [hi0]
      have h2 := h.below bA
      clear hw2 hi0 hmap c0 h1 hg hF
      obtain ⟨⟨q0, q1, q2, q3⟩, qf⟩ := node_cells hnew
      have hset := heap_cell_same w2 i0 3 (.int .i64 (x' : Int)) _ _ _ hnew
      have b3 : Below w.heap.size w (w2.setCell ⟨i0, 3, none⟩ (.int .i64 (x' : Int))) := bA.setCell (p := ⟨i0, 3, none⟩) hi _
      go_upto_region 8 with fail
      try rw [hx']
      obtain ⟨w3, hw3⟩ : ∃ w3, w2.setCell ⟨i0, 3, none⟩ (.int .i64 (x' : Int)) = w3 := ⟨_, rfl⟩
      rw [hw3] at hset b3 ⊢
      replace hset : w3.heap[i0]? = some (.cells #[.map none, .bool false, tx b, .int .i64 (x' : Int)] 113) := hset
      have h3 := h.below b3
      obtain ⟨⟨q0, q1, q2, q3⟩, qf⟩ := node_cells hset
      have c0 := h3.c0
      have hsz : s < maxLen := by unfold maxLen; omega
      have hm3 : PMap w3.drew gN s (fun k => (T k).map (ndv G k)) := h3.map.keep rfl
      obtain ⟨w4, hrun, pm4, g4⟩ := hm3.put Tryz.underlying33 hsz n hw (.agg #[.map none, .bool false, tx b, .int .i64 (x' : Int)])
      have hput := (h3.keep (w' := w3.drew) (fun _ _ => rfl)).put (b' := b) (x' := x') hn g4 pm4
      have hgr : w.grownBy w4 (some gN) := ⟨g4.os.trans b3.os, g4.tape.trans b3.tape, g4.output.trans b3.output, Nat.le_trans b3.size g4.size, fun k hk hne => (g4.block k (Nat.lt_of_lt_of_le hk b3.size) hne).trans (b3.block k hk)⟩
      have hsw := hput.sweep_ok hTn hs (fun k C e => hC k C (hCn k C e))
      clear hset hm3 h3 h2 hnew bA pm4 g4 b3 hw3 hput
      go_region
      go_wp2_with fail
      refine hsw.mono ?_
      rintro e w5 ⟨rfl, s', h5, wt5⟩
      clear hsw
      go_wp2_with fail
      go_ret
      refine ⟨rfl, s', h5, (Wt.grown hgr (.inr (.inl rfl))).trans (wt5.mono fun i hi => ?_)⟩
      rcases hi with e | e | ⟨k, D, e, e2⟩
      · exact .inl e
      · exact .inr (.inl e)
      · exact .inr (.inr ⟨k, D, hCn k D e, e2⟩)
  · have hnf : holdE T n by' = fileT T n ∧ holdN T n by' = T := by
      unfold holdE holdN
      cases e : T n with
      | none => exact ⟨rfl, rfl⟩
      | some nd => cases nd with
        | dir C => exact ⟨rfl, rfl⟩
        | file b x => exact absurd (by unfold fileT; rw [e]) hf
    have hq : (fileT T n == 0) = false := by simp [hf]
    rw [hnf.1, hnf.2]
    clear hnf
    generalize fileT T n = c at *
    go_enter Tryz.func58, Tryz.ntmps58
    go_wp2_with fail
    refine hF.mono ?_
    rintro e w1 ⟨rfl, b1⟩
    clear hF
    go_wp2_with fail
    go_ret
    exact ⟨rfl, s, h.below b1, .below _ b1⟩
end
end Go.Proofs.YtjkneekfijibiabGreatDoor

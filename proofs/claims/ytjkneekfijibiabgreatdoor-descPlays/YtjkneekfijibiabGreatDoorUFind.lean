/- Package tree: whether a text is a PATH, by its Go text. -/
import Derived.Test.YtjkneekfijibiabGreatDoorUIter
import Derived.Test.YtjkneekfijibiabGreatDoorShelfU
import Derived.Test.YtjkneekfijibiabGreatDoorUCnt
import Derived.Test.YtjkneekfijibiabGreatDoorWBuf3
import Derived.BigQuiet
import Derived.Deep.QuietTactic
namespace Go.Proofs.YtjkneekfijibiabGreatDoor
open Go.RowKit Go.Shelf
attribute [local go_sem] Oper.semAt_some

theorem index_ok (z : List UInt8) (W : World) : Calls Tryz.prog 173 #[tx z, .string ⟨#[47]⟩] W fun e w' => e = .returned (.int .i64 (Lib.indexByte z 47)) ∧ w' = W :=
  Any.strings_Index_one Tryz.indexL ⟨z.toArray⟩ 47 W
theorem cutPrefix_ok (z : List UInt8) (W : World) : Calls Tryz.prog 119 #[tx z, .string ⟨#[47]⟩] W fun e w' => e = .returned (.tuple #[tx (Lib.trimPrefix z [47]), .bool (Lib.hasPrefix z [47])]) ∧ w' = W :=
  Any.strings_CutPrefix Tryz.cutPrefixL ⟨z.toArray⟩ ⟨#[47]⟩ W

theorem namesOf_cons {q : List UInt8} (h : q ≠ []) : (namesOf (47 :: q)).isSome = (parts q).all isName := by
  have h0 : (47 :: q) ≠ [47] := fun e => h (by injection e)
  unfold namesOf
  rw [if_neg h0, parts_slash]
  cases e : parts q with
  | nil => exact absurd e (parts_ne q)
  | cons x t =>
    simp only
    cases (x :: t).all isName <;> rfl
theorem namesOf_not {p : List UInt8} (h : Lib.hasPrefix p [47] = false) : namesOf p = none := by
  cases hn : namesOf p with
  | none => rfl
  | some l =>
    by_cases h0 : p = [47]
    · subst h0; simp [Lib.hasPrefix, List.isPrefixOf] at h
    · obtain ⟨q, rfl, _⟩ := namesOf_path hn h0
      simp [Lib.hasPrefix, List.isPrefixOf] at h

/-- A record that is put, and put again. -/
theorem put_put (W : World) (l : Nat) (o o' : Obj) (h : W.heap[l]? = some o) : (W.putObj l o').putObj l o = W := by
  obtain ⟨hl, he⟩ := Array.getElem?_eq_some_iff.1 h
  simp only [World.putObj]
  congr 1
  apply Array.ext
  · simp
  · intro i h1 h2
    by_cases e : i = l
    · subst e; simp [he]
    · simp only [Array.setIfInBounds_setIfInBounds]
      exact Array.getElem_setIfInBounds_ne h2 (Ne.symm e)

/-- A loop over a function whose rounds go on, or return. -/
theorem range_by {P : Program} {g : Operand} {ps : Array Tmp} {assign body : Code} {Q : Exit → Act → World → Prop} {a : Act} {w : World} {gf n D : Nat} {lb : Array Value}
    (hD : w.heap.size = D) (hn : 1 ≤ n) (hg : a.eval g = .func (.func gf) #[] lb) (eg : ∀ args w, (callFunc gf args).run P w = .ok (.enter gf args) w)
    (h : ∀ (fn : FuncId) (rc : LoopState → Option Code → Loop) (W1 : World), (∀ st pe, rc st pe = { state := st, pending := pe, fn := fn, tmps := a.tmps, params := ps, assign := assign, body := body, defers := D }) →
      W1 = (w.alloc (.deferred (some []))).alloc (.loop (rc .ready none)) →
      CallsIn Fence.wide (n - 1) P gf (#[.func (.yield (D + 1)) #[] #[]] ++ lb) W1 fun e W' => (∃ v, e = .returned v) ∧
        ((W'.heap[D + 1]? = some (.loop (rc .ready none)) ∧ Q .normal { a with defers := { target := .collected D, args := #[] } :: a.defers } (W'.putObj (D + 1) (.loop (rc .exhausted none)))) ∨
         (W'.heap[D + 1]? = some (.loop (rc .done (some .ret))) ∧ Code.ret.wpIn Fence.wide n P Q { a with defers := { target := .collected D, args := #[] } :: a.defers } (W'.putObj (D + 1) (.loop (rc .exhausted (some .ret))))))) :
    (Code.rangeFunc g ps assign body).wpIn Fence.wide n P Q a w := by
  subst hD
  refine wpIn_rangeFunc ?_
  intro fn _
  have hro : Fence.wide.round = none := rfl
  rw [hro]
  obtain ⟨W1, hW1⟩ : ∃ W1, (w.alloc (.deferred (some []))).alloc (.loop { state := .ready, pending := none, fn := fn, tmps := a.tmps, params := ps, assign := assign, body := body, defers := w.heap.size }) = W1 := ⟨_, rfl⟩
  have h' := h fn (fun st pe => { state := st, pending := pe, fn := fn, tmps := a.tmps, params := ps, assign := assign, body := body, defers := w.heap.size }) W1 (fun _ _ => rfl) hW1.symm
  have hen := run_enterLoop_outer (P := P) (w := w) fn a.tmps ps assign body
  rw [hW1] at hen
  refine ⟨w.heap.size + 1, [{ target := .collected w.heap.size, args := #[] }], W1, { target := .fn (.func gf) lb, args := #[.func (.yield (w.heap.size + 1)) #[] #[]] }, W1, gf, #[.func (.yield (w.heap.size + 1)) #[] #[]] ++ lb, W1, ?_, ?_, ?_, ?_, ?_, ?_⟩
  · exact hen
  · simp only [resolve, hg]
    simp [go_sem]
  · intro f' _
    trivial
  · simp [invoke, go_sem, eg]
  · exact fun _ => hn
  · refine h'.mono ?_
    rintro e W' ⟨⟨v, rfl⟩, ⟨hl, hq⟩ | ⟨hl, hq⟩⟩
    · have e := run_endLoop (P := P) hl (by simp)
      exact ⟨none, _, e, hq⟩
    · have e := run_endLoop (P := P) hl (by simp)
      exact ⟨some .ret, _, e, hq⟩

/-- How a round's body ends: nothing was done, or it returns. -/
def bodyEnd (L : Nat) (bz dn : Obj) (W : World) (R : Ending → World → Prop) : Exit → Act → World → Prop
  | .normal, _, W3 => W3 = W.putObj L bz ∧ R (.returned (.bool true)) W
  | .ret, _, W3 => W3.heap[L]? = some bz ∧ R (.returned (.bool false)) (W3.putObj L dn)
  | _, _, _ => False
theorem yield_by {P : Program} {L m D : Nat} {fn : FuncId} {tm : Array Value} {ps : Array Tmp} {assign body : Code} {rc : LoopState → Option Code → Loop} {W : World} {args : Array Value} {R : Ending → World → Prop}
    (hrc : ∀ st pe, rc st pe = { state := st, pending := pe, fn := fn, tmps := tm, params := ps, assign := assign, body := body, defers := D }) (hl : W.heap[L]? = some (.loop (rc .ready none))) (hs : args.size = ps.size)
    (h : assign.wpIn (Fence.wide.inRound L) m P (Exit.then (fun a1 w1 => w1 = W ∧ body.wpIn (Fence.wide.inRound L) m P (bodyEnd L (.loop (rc .busy none)) (.loop (rc .done (some .ret))) W R) a1 (W.putObj L (.loop (rc .busy none)))) (fun _ _ _ => False))
      { tmps := (ps.zip args).foldl (fun t (p, v) => t.setIfInBounds p v) tm, defers := [] } W) : YieldAt Fence.wide m P L args W R := by
  have hlt : L < W.heap.size := (Array.getElem?_eq_some_iff.1 hl).1
  rw [hrc] at hl
  refine ⟨_, _, _, _, run_yield hl hs, roundIn_of_wpIn trivial (wpIn_mono h ?_)⟩
  rintro e a1 w1 h1
  cases e <;> try exact h1
  obtain ⟨rfl, hb⟩ := h1
  refine ⟨_, run_beginRound hl rfl, ?_⟩
  rw [hrc, hrc] at hb
  refine wpIn_mono hb ?_
  rintro e a3 W3 h3
  have hnew : (w1.putObj L (.loop { state := .busy, pending := none, fn := fn, tmps := tm, params := ps, assign := assign, body := body, defers := D })).heap[L]? = some (.loop { state := .busy, pending := none, fn := fn, tmps := tm, params := ps, assign := assign, body := body, defers := D }) := World.putObj_heap_same hlt
  cases e <;> try exact h3.elim
  · obtain ⟨rfl, hR⟩ := h3
    refine ⟨_, _, run_endRound none hnew, ?_⟩
    exact Eq.subst (motive := fun X => R (.returned (.bool true)) X) (put_put w1 L _ _ hl).symm hR
  · obtain ⟨hk, hR⟩ := h3
    exact ⟨_, _, run_endRound (some .ret) hk, hR⟩

set_option maxRecDepth 100000 in
set_option maxHeartbeats 4000000 in
theorem isPath_range (q : List UInt8) (hq : q ≠ []) (hp : q.length < 99999) (w : World) :
    Calls Tryz.prog 68 #[tx (47 :: q)] w fun e w' => e = .returned (.bool ((parts q).all isName)) ∧ Below w.heap.size w w' := by
  have hc := cutPrefix_ok (47 :: q)
  have e1 : Lib.trimPrefix (47 :: q) [47] = q := by simp [Lib.trimPrefix, Lib.hasPrefix, List.isPrefixOf]
  have e2 : Lib.hasPrefix (47 :: q) [47] = true := by simp [Lib.hasPrefix, List.isPrefixOf]
  rw [e1, e2] at hc
  have hqe : ((47 :: q) == [47]) = false := by simp [hq]
  have f1 : Fence.wide.fn 119 := trivial
  have f2 : Fence.wide.fn 120 := trivial
  refine (callsIn_wide (n := 4)).1 ?_
  refine callsIn_of_wp_marks Tryz.func68 rfl trivial ?_ rfl
  simp only [Tryz.ntmps68, List.size_toArray, List.length_cons, List.length_nil, Nat.reduceAdd, Nat.reduceSub, Array.replicate_succ, Array.replicate_zero, List.push_toArray, List.append_toArray, List.nil_append, List.cons_append]
  gi_wp2_with (first
    | (gi_at_call 119; refine (callsIn_wide.2 (hc _)).mono ?_; rintro e w' ⟨rfl, hw'⟩; subst w')
    | (gi_at_call 120; refine (callsIn_wide.2 (splitSeq_ok q _)).mono ?_; rintro e w' ⟨rfl, hw'⟩; subst w'))
  obtain ⟨W0, hW0⟩ : ∃ W0, (((w.alloc (.cells #[.bool false] 4)).alloc (.cells #[tx q] 9)).alloc (.cells #[.string ⟨#[47]⟩] 9)).alloc (.cells #[.int .i64 0] 3) = W0 := ⟨_, rfl⟩
  rw [hW0]
  obtain ⟨B, hB⟩ : ∃ B, w.heap.size = B := ⟨_, rfl⟩
  have hsz : W0.heap.size = B + 4 := by rw [← hW0, ← hB]; simp
  have hb0 : Below B w W0 := by
    rw [← hW0, ← hB]
    exact ((((Below.refl _ w).alloc (Nat.le_refl _) _).alloc (by simp) _).alloc (by simp; omega) _).alloc (by simp; omega) _
  have k0 : W0.heap[B]? = some (.cells #[.bool false] 4) := by
    rw [← hW0, ← hB, Below.heap_alloc _ _ _ (by simp; omega), Below.heap_alloc _ _ _ (by simp; omega), Below.heap_alloc _ _ _ (by simp)]
    exact World.alloc_heap_new _ _
  have k1 : W0.heap[B + 1]? = some (.cells #[tx q] 9) := by
    rw [← hW0, ← hB, Below.heap_alloc _ _ _ (by simp), Below.heap_alloc _ _ _ (by simp)]
    have := World.alloc_heap_new (w.alloc (.cells #[.bool false] 4)) (.cells #[tx q] 9)
    rwa [World.size_alloc] at this
  have k2 : W0.heap[B + 2]? = some (.cells #[.string ⟨#[47]⟩] 9) := by
    rw [← hW0, ← hB, Below.heap_alloc _ _ _ (by simp)]
    have := World.alloc_heap_new ((w.alloc (.cells #[.bool false] 4)).alloc (.cells #[tx q] 9)) (.cells #[.string ⟨#[47]⟩] 9)
    rwa [World.size_alloc, World.size_alloc] at this
  have k3 : W0.heap[B + 3]? = some (.cells #[.int .i64 0] 3) := by
    rw [← hW0, ← hB]
    have := World.alloc_heap_new (((w.alloc (.cells #[.bool false] 4)).alloc (.cells #[tx q] 9)).alloc (.cells #[.string ⟨#[47]⟩] 9)) (.cells #[.int .i64 0] 3)
    rwa [World.size_alloc, World.size_alloc, World.size_alloc] at this
  clear hW0 hc f1 f2 e1 e2 hqe
  rw [hB]
  refine range_by (D := B + 4) hsz (by omega) rfl (enters_of Tryz.func171 (by kernel_rfl) rfl) ?_
  intro fn rc W1 hrc hW1
  have s1 : W1.heap.size = B + 6 := by rw [hW1]; simp [hsz]
  have hold : ∀ i, i < B + 4 → W1.heap[i]? = W0.heap[i]? := fun i hi => by
    rw [hW1, Below.heap_alloc _ _ _ (by simp [hsz]; omega), Below.heap_alloc _ _ _ (by rw [hsz]; exact hi)]
  have d4 : W1.heap[B + 4]? = some (.deferred (some [])) := by
    rw [hW1, Below.heap_alloc _ _ _ (by simp [hsz]), ← hsz]; exact World.alloc_heap_new _ _
  have d5 : W1.heap[B + 4 + 1]? = some (.loop (rc .ready none)) := by
    rw [hW1]
    have := World.alloc_heap_new (W0.alloc (.deferred (some []))) (.loop (rc .ready none))
    rwa [World.size_alloc, hsz] at this
  have hb1 : Below B w W1 := by rw [hW1]; exact (hb0.alloc (by rw [hsz]; omega) _).alloc (by simp [hsz]; omega) _
  clear hW1
  have d0 := (hold B (by omega)).trans k0
  have d1 := (hold (B + 1) (by omega)).trans k1
  have d2 := (hold (B + 2) (by omega)).trans k2
  have d3 := (hold (B + 3) (by omega)).trans k3
  clear hold k0 k1 k2 k3
  have hkeep : ∀ {W : World} {i : Nat} {o : Obj}, W1.grownBy W (some (B + 1)) → i ≠ B + 1 → W1.heap[i]? = some o → W.heap[i]? = some o := fun {W i o} hg hne hi =>
    (hg.block i (Array.getElem?_eq_some_iff.1 hi).1 (fun e => hne (Option.some.inj e))).trans hi
  have hbW : ∀ {W : World}, W1.grownBy W (some (B + 1)) → Below B w W := fun {W} hg => hb1.grown hg (by rw [s1]; omega) (fun k e => by cases e; omega)
  refine (iter_ok (B + 4 + 1) (B + 1) (B + 1 + 1) (B + 1 + 2) q (by omega) W1 (by omega) (by omega) (box_cell d2).1 d1 (box_cell d3).1
    (fun W' => W'.heap[B + 4 + 1]? = some (.loop (rc .done (some .ret))) ∧ W'.heap[B + 4]? = some (.deferred (some [])) ∧ W'.heap[B]? = some (.cells #[.bool false] 4) ∧ Below B w W') index_ok ?_).mono ?_
  · intro x W hx hg
    have m5 := hkeep hg (by omega) d5
    have hl : B + 4 + 1 < W.heap.size := (Array.getElem?_eq_some_iff.1 m5).1
    have m0 := hkeep hg (by omega) d0
    have m4 := hkeep hg (by omega) d4
    refine yield_by hrc m5 rfl ?_
    have q0 : (W.putObj (B + 4 + 1) (.loop (rc .busy none))).heap[B]? = some (.cells #[.bool false] 4) := (World.putObj_heap_other (by omega)).trans m0
    have q4 : (W.putObj (B + 4 + 1) (.loop (rc .busy none))).heap[B + 4]? = some (.deferred (some [])) := (World.putObj_heap_other (by omega)).trans m4
    have q5 : (W.putObj (B + 4 + 1) (.loop (rc .busy none))).heap[B + 4 + 1]? = some (.loop (rc .busy none)) := World.putObj_heap_same hl
    have qb : Below B w (W.putObj (B + 4 + 1) (.loop (rc .busy none))) := (hbW hg).grown (grownBy_putObj' _ _ _) (by omega) (fun k e => by cases e; omega)
    obtain ⟨X, hX⟩ : ∃ X, W.putObj (B + 4 + 1) (.loop (rc .busy none)) = X := ⟨_, rfl⟩
    rw [hX] at q0 q4 q5 qb
    obtain ⟨n1, n2⟩ := box_cell q0
    have hnm := isName_ok x hx X
    have hbe : ∀ R, bodyEnd (B + 4 + 1) (.loop (rc .busy none)) (.loop (rc .done (some .ret))) W R = fun (e : Exit) (_ : Act) (W3 : World) => match e with
        | .normal => W3 = X ∧ R (.returned (.bool true)) W
        | .ret => W3.heap[B + 4 + 1]? = some (.loop (rc .busy none)) ∧ R (.returned (.bool false)) (W3.putObj (B + 4 + 1) (.loop (rc .done (some .ret))))
        | _ => False := fun R => by
      funext e a W3
      cases e <;> simp only [bodyEnd, hX]
    rw [hX, hbe]
    clear hX hbe
    generalize rc .busy none = rb at *
    generalize rc .done (some .ret) = rd at *
    cases hx2 : isName x with
    | true =>
      rw [hx2] at hnm
      gi_wp2_with (refine ⟨trivial, ?_⟩; gi_at_call 121; refine (CallsIn.inRound (B + 4 + 1) (callsIn_wide.2 hnm)).mono ?_; rintro e w' ⟨rfl, hw'⟩; subst w')
      rfl
    | false =>
      rw [hx2] at hnm
      gi_wp2_with (refine ⟨trivial, ?_⟩; gi_at_call 121; refine (CallsIn.inRound (B + 4 + 1) (callsIn_wide.2 hnm)).mono ?_; rintro e w' ⟨rfl, hw'⟩; subst w')
      have hX5 : B + 4 + 1 < X.heap.size := (Array.getElem?_eq_some_iff.1 q5).1
      have r5 : (X.setCell ⟨B, 0, none⟩ (.bool false)).heap[B + 4 + 1]? = some (.loop rb) := (Below.heap_setCell _ _ _ _ (by show B + 4 + 1 ≠ B; omega)).trans q5
      have r4 : (X.setCell ⟨B, 0, none⟩ (.bool false)).heap[B + 4]? = some (.deferred (some [])) := (Below.heap_setCell _ _ _ _ (by show B + 4 ≠ B; omega)).trans q4
      refine ⟨r5, World.putObj_heap_same (by simpa using hX5), (World.putObj_heap_other (by omega)).trans r4, (World.putObj_heap_other (by omega)).trans (box_set _ q0), ?_⟩
      exact (qb.setCell (p := ⟨B, 0, none⟩) (Nat.le_refl _) _).grown (grownBy_putObj' _ _ _) (by simp; omega) (fun k e => by cases e; omega)
  · rintro e W' ⟨hv, ⟨ha, hg⟩ | ⟨ha, m5, m4, m0, hb⟩⟩
    · have m5 := hkeep hg (by omega) d5
      refine ⟨hv, .inl ⟨m5, ?_⟩⟩
      have m0 := hkeep hg (by omega) d0
      have m4 := hkeep hg (by omega) d4
      have hl : B + 4 + 1 < W'.heap.size := (Array.getElem?_eq_some_iff.1 m5).1
      have q0 : (W'.putObj (B + 4 + 1) (.loop (rc .exhausted none))).heap[B]? = some (.cells #[.bool false] 4) := (World.putObj_heap_other (by omega)).trans m0
      have q4 : (W'.putObj (B + 4 + 1) (.loop (rc .exhausted none))).heap[B + 4]? = some (.deferred (some [])) := (World.putObj_heap_other (by omega)).trans m4
      have qb : Below B w (W'.putObj (B + 4 + 1) (.loop (rc .exhausted none))) := (hbW hg).grown (grownBy_putObj' _ _ _) (by omega) (fun k e => by cases e; omega)
      generalize W'.putObj (B + 4 + 1) (.loop (rc .exhausted none)) = X at *
      obtain ⟨n1, n2⟩ := box_cell q0
      gi_wp2
      have r0 := box_set (.bool true) q0
      have r4 : (X.setCell ⟨B, 0, none⟩ (.bool true)).heap[B + 4]? = some (.deferred (some [])) := (Below.heap_setCell _ _ _ _ (by show B + 4 ≠ B; omega)).trans q4
      have r1 := (box_cell (W := (X.setCell ⟨B, 0, none⟩ (.bool true)).putObj (B + 4) (.deferred none)) ((World.putObj_heap_other (by omega)).trans r0)).1
      refine ⟨by simp, .inl ⟨_, _, rfl, run_takeDeferred r4, ?_⟩⟩
      refine ⟨.bool true, by simp [results, Tryz.results68, go_sem, r1], rfl, ?_⟩
      exact (qb.setCell (p := ⟨B, 0, none⟩) (Nat.le_refl _) _).grown (grownBy_putObj' _ _ _) (by simp; have := (Array.getElem?_eq_some_iff.1 q4).1; omega) (fun k e => by cases e; omega)
    · refine ⟨hv, .inr ⟨m5, ?_⟩⟩
      have hl : B + 4 + 1 < W'.heap.size := (Array.getElem?_eq_some_iff.1 m5).1
      have q0 : (W'.putObj (B + 4 + 1) (.loop (rc .exhausted (some .ret)))).heap[B]? = some (.cells #[.bool false] 4) := (World.putObj_heap_other (by omega)).trans m0
      have q4 : (W'.putObj (B + 4 + 1) (.loop (rc .exhausted (some .ret)))).heap[B + 4]? = some (.deferred (some [])) := (World.putObj_heap_other (by omega)).trans m4
      have qb : Below B w (W'.putObj (B + 4 + 1) (.loop (rc .exhausted (some .ret)))) := hb.grown (grownBy_putObj' _ _ _) (by omega) (fun k e => by cases e; omega)
      generalize W'.putObj (B + 4 + 1) (.loop (rc .exhausted (some .ret))) = X at *
      obtain ⟨n1, n2⟩ := box_cell q0
      gi_wp2
      have r1 := (box_cell (W := X.putObj (B + 4) (.deferred none)) ((World.putObj_heap_other (by omega)).trans q0)).1
      refine ⟨by simp, .inl ⟨_, _, rfl, run_takeDeferred q4, ?_⟩⟩
      refine ⟨.bool false, by simp [results, Tryz.results68, go_sem, r1], rfl, ?_⟩
      exact qb.grown (grownBy_putObj' _ _ _) (by have := (Array.getElem?_eq_some_iff.1 q4).1; omega) (fun k e => by cases e; omega)

set_option maxRecDepth 100000 in
set_option maxHeartbeats 2000000 in
theorem isPath_ok (p : List UInt8) (hp : p.length < 100000) (w : World) :
    Calls Tryz.prog 68 #[tx p] w fun e w' => e = .returned (.bool (namesOf p).isSome) ∧ Below w.heap.size w w' := by
  by_cases h0 : p = [47]
  · subst h0
    go_enter Tryz.func68, Tryz.ntmps68
    go_wp2_with fail
    refine bodyPost_ret (v := .bool true) (by simp [results, Tryz.results68, go_sem]) rfl ⟨rfl, ?_⟩
    repeat first | exact Below.refl _ _ | refine Below.alloc ?_ (by first | omega | (simp <;> omega)) _ | refine Below.setCell ?_ (by first | omega | (simp <;> omega)) _
  · by_cases h1 : Lib.hasPrefix p [47] = true
    · cases p with
      | nil => simp [Lib.hasPrefix, List.isPrefixOf] at h1
      | cons c q =>
        have hc : c = 47 := by
          simp only [Lib.hasPrefix, List.isPrefixOf, Bool.and_true, beq_iff_eq] at h1
          exact h1.symm
        subst hc
        have hq : q ≠ [] := fun e => h0 (by rw [e])
        rw [namesOf_cons hq]
        exact isPath_range q hq (by simp at hp; omega) w
    · have h2 : Lib.hasPrefix p [47] = false := by simpa using h1
      have hc := cutPrefix_ok p
      rw [namesOf_not h2]
      rw [h2] at hc
      have hqe : (p == [47]) = false := by simp [h0]
      clear h2 h1
      go_enter Tryz.func68, Tryz.ntmps68
      go_wp2_with (go_at_call 119; refine (hc _).mono ?_; rintro e w' ⟨rfl, hw'⟩; subst w')
      refine bodyPost_ret (v := .bool false) (by simp [results, Tryz.results68, go_sem]) rfl ⟨rfl, ?_⟩
      repeat first | exact Below.refl _ _ | refine Below.alloc ?_ (by first | omega | (simp <;> omega)) _ | refine Below.setCell ?_ (by first | omega | (simp <;> omega)) _
end Go.Proofs.YtjkneekfijibiabGreatDoor

namespace Go.Proofs.YtjkneekfijibiabGreatDoor
open Go.RowKit Go.Maps

/-- A fact that the walk does not see. -/
structure Hidd (p : Prop) : Prop where
  out : p

/-- An error, or none. -/
abbrev uer (k : Int) : Value := .iface 51 (.int .i64 k)
def uev (c : Int) : Value := if c = 0 then .nilIface else uer c
theorem uev_zero : uev 0 = .nilIface := rfl
theorem uev_ne {c : Int} (h : c ≠ 0) : uev c = uer c := if_neg h

/-- Bytes that nobody writes any more. -/
def Dat (w : World) (v : Value) (b : List UInt8) : Prop :=
  (b = [] ∧ v = .slice none 0 0) ∨ ∃ g c, v = .slice (some ⟨g, 0, none⟩) b.length c ∧ b.length ≤ c ∧ g < w.heap.size ∧ ∀ j (h : j < b.length), w.cell? ⟨g, j, none⟩ = some (.int .u8 (b[j].toNat : Int))
/-- The block of a list. -/
def blkOf : Value → Option Nat
  | .slice (some a) _ _ => some a.block
  | _ => none
theorem Dat.keep {w w' : World} {v : Value} {b : List UInt8} (h : Dat w v b) (hk : ∀ i, blkOf v = some i → w'.heap[i]? = w.heap[i]?) (hs : w.heap.size ≤ w'.heap.size) : Dat w' v b := by
  rcases h with h | ⟨g, c, rfl, hc, hg, hi⟩
  · exact .inl h
  · exact .inr ⟨g, c, rfl, hc, by omega, fun j hj => by rw [World.cell?_of_block (w := w) (a := ⟨g, j, none⟩) (hk g rfl)]; exact hi j hj⟩
theorem Dat.lt {w : World} {v : Value} {b : List UInt8} (h : Dat w v b) {i : Nat} (hi : blkOf v = some i) : i < w.heap.size := by
  rcases h with ⟨_, rfl⟩ | ⟨g, c, rfl, _, hg, _⟩
  · cases hi
  · cases hi; exact hg

/-- A node's four cells. -/
def ncells (G : Int → Nat) (V : Int → Value) (Z : Int → Nat) (k : Int) : Nd → Array Value
  | .dir _ => #[.map (some (G k)), .slice none 0 0, .int .i64 (Z k : Int), .int .i64 0]
  | .file _ h => #[.map none, V k, .int .i64 (Z k : Int), .int .i64 (h : Int)]

/-- A tree at block r: its map, how many nodes, which block each node has, each directory's map, each file's bytes; what is its own. -/
structure PTr (w : World) (r gN s : Nat) (T : Wd) (Z : Int → Nat) (B G : Int → Nat) (V : Int → Value) (O : Nat → Prop) : Prop where
  head : w.heap[r]? = some (.cells #[.map (some gN)] 110)
  map : PMap w gN s (fun k => (T k).map (fun _ => wp (B k)))
  node : ∀ k nd, T k = some nd → w.heap[B k]? = some (.cells (ncells G V Z k nd) 128)
  dirs : ∀ k C, T k = some (.dir C) → SMap w (G k) C.length (fun nm => (C.lookup nm).map (.int .i64 ·))
  data : ∀ k b h, T k = some (.file b h) → Dat w (V k) b
  sep : ∀ k C, T k = some (.dir C) → G k ≠ gN
  inj : ∀ k k' C C', T k = some (.dir C) → T k' = some (.dir C') → G k = G k' → k = k'
  binj : ∀ k k', (T k).isSome = true → (T k').isSome = true → B k = B k' → k = k'
  ownR : O r
  ownN : O gN
  ownB : ∀ k, (T k).isSome = true → O (B k)
  ownG : ∀ k C, T k = some (.dir C) → O (G k)
  ownD : ∀ k b h i, T k = some (.file b h) → blkOf (V k) = some i → O i
  lt : ∀ i, O i → i < w.heap.size

/-- All but its own blocks stayed; what is its own now was its own, or is new. -/
structure Stp (w w' : World) (O O' : Nat → Prop) : Prop where
  wt : Wt O w w'
  own : ∀ i, O' i → O i ∨ w.heap.size ≤ i

section
variable {w w' : World} {r gN s : Nat} {T : Wd} {Z : Int → Nat} {B G : Int → Nat} {V : Int → Value} {O : Nat → Prop}

theorem PTr.keep (h : PTr w r gN s T Z B G V O) (hk : ∀ i, O i → w'.heap[i]? = w.heap[i]?) (hs : w.heap.size ≤ w'.heap.size) : PTr w' r gN s T Z B G V O :=
  ⟨(hk r h.ownR).trans h.head, h.map.keep (hk gN h.ownN), fun k nd e => (hk _ (h.ownB k (by rw [e]; rfl))).trans (h.node k nd e), fun k C e => (h.dirs k C e).keep (hk _ (h.ownG k C e)), fun k b x e => (h.data k b x e).keep (fun i hi => hk i (h.ownD k b x i e hi)) hs, h.sep, h.inj, h.binj, h.ownR, h.ownN, h.ownB, h.ownG, h.ownD, fun i hi => Nat.lt_of_lt_of_le (h.lt i hi) hs⟩
theorem PTr.below (h : PTr w r gN s T Z B G V O) (hb : Below w.heap.size w w') : PTr w' r gN s T Z B G V O := h.keep (fun i ht => hb.block i (h.lt i ht)) hb.size
theorem PTr.drew (h : PTr w r gN s T Z B G V O) (q : Nat) : PTr (w.drewN q) r gN s T Z B G V O := h.keep (fun _ _ => rfl) (Nat.le_refl _)

theorem Stp.refl (w : World) (O : Nat → Prop) : Stp w w O O := ⟨⟨rfl, rfl, rfl, Nat.le_refl _, fun _ _ _ => rfl⟩, fun _ h => .inl h⟩
theorem Stp.below {O : Nat → Prop} (h : Below w.heap.size w w') : Stp w w' O O := ⟨.below _ h, fun _ h => .inl h⟩
theorem Stp.trans {w1 w2 : World} {O1 O2 : Nat → Prop} (h : Stp w w1 O O1) (k : Stp w1 w2 O1 O2) : Stp w w2 O O2 :=
  ⟨⟨k.wt.os.trans h.wt.os, k.wt.tape.trans h.wt.tape, k.wt.output.trans h.wt.output, Nat.le_trans h.wt.size k.wt.size, fun i hi hn => (k.wt.block i (Nat.lt_of_lt_of_le hi h.wt.size) (fun ho => by
      rcases h.own i ho with e | e
      · exact hn e
      · omega)).trans (h.wt.block i hi hn)⟩,
   fun i hi => by
    rcases k.own i hi with e | e
    · exact h.own i e
    · exact .inr (Nat.le_trans h.wt.size e)⟩
/-- Memory that is not its own stays. -/
theorem Stp.keep {O' P : Nat → Prop} (h : Stp w w' O O') (hP : ∀ i, P i → ¬ O i ∧ i < w.heap.size) (i : Nat) (hi : P i) : w'.heap[i]? = w.heap[i]? := h.wt.block i (hP i hi).2 (hP i hi).1
theorem Stp.apart {O' P : Nat → Prop} (h : Stp w w' O O') (hP : ∀ i, P i → ¬ O i ∧ i < w.heap.size) (i : Nat) (hi : P i) : ¬ O' i ∧ i < w'.heap.size := by
  obtain ⟨h1, h2⟩ := hP i hi
  refine ⟨fun ho => ?_, Nat.lt_of_lt_of_le h2 h.wt.size⟩
  rcases h.own i ho with e | e
  · exact h1 e
  · omega

theorem PTr.c0 (h : PTr w r gN s T Z B G V O) : w.cell? ⟨r, 0, none⟩ = some (.map (some gN)) := by rw [cell_of_row w r 0 _ _ _ h.head]; rfl
theorem PTr.rf (h : PTr w r gN s T Z B G V O) : w.frozen? ⟨r, 0, none⟩ = false := by simp [World.frozen?, h.head]
/-- A node's cells. -/
theorem PTr.dcell (h : PTr w r gN s T Z B G V O) {k : Int} {C : List (Nm × Int)} (e : T k = some (.dir C)) : w.cell? ⟨B k, 0, none⟩ = some (.map (some (G k))) ∧ w.cell? ⟨B k, 1, none⟩ = some (.slice none 0 0) ∧ w.cell? ⟨B k, 2, none⟩ = some (.int .i64 (Z k : Int)) ∧ w.cell? ⟨B k, 3, none⟩ = some (.int .i64 0) := by
  refine ⟨?_, ?_, ?_, ?_⟩ <;> (rw [cell_of_row w (B k) _ _ _ _ (h.node k _ e)]; rfl)
theorem PTr.fcell (h : PTr w r gN s T Z B G V O) {k : Int} {b : List UInt8} {x : Nat} (e : T k = some (.file b x)) : w.cell? ⟨B k, 0, none⟩ = some (.map none) ∧ w.cell? ⟨B k, 1, none⟩ = some (V k) ∧ w.cell? ⟨B k, 2, none⟩ = some (.int .i64 (Z k : Int)) ∧ w.cell? ⟨B k, 3, none⟩ = some (.int .i64 (x : Int)) := by
  refine ⟨?_, ?_, ?_, ?_⟩ <;> (rw [cell_of_row w (B k) _ _ _ _ (h.node k _ e)]; rfl)
theorem PTr.nfrozen (h : PTr w r gN s T Z B G V O) {k : Int} {nd : Nd} (e : T k = some nd) (j : Nat) : w.frozen? ⟨B k, j, none⟩ = false := by simp [World.frozen?, h.node k nd e]

theorem zero_nodeP (w : World) : (zeroValue 106).run Tryz.prog w = .ok (.pointer none) w := by kernel_rfl
theorem PTr.look (h : PTr w r gN s T Z B G V O) (n : Int) (hw : (Lit.int .i64 n).wf = true) : (Instr.lookup 108 (.map (some gN)) (.int .i64 n) false).run Tryz.prog w = .ok (if (T n).isSome then wp (B n) else .pointer none) w := by
  rw [h.map.look Tryz.underlying108 (zero_nodeP _) n hw]
  cases T n <;> rfl

set_option maxHeartbeats 1000000 in
theorem PTr.nodes_ok (h : PTr w r gN s T Z B G V O) : Calls Tryz.prog 13 #[wp r] w fun e w' => e = .returned (.int .i64 (s : Int)) ∧ w' = w := by
  have c0 := h.c0
  have hl := h.map
  go_enter Tryz.func13, Tryz.ntmps13
  go_wp2_with (refine wpList_klen rfl _ 108 rfl 106 Tryz.underlying108 gN _ _ rfl hl ?_)
  go_ret
  exact ⟨rfl, rfl⟩

theorem dir_ne (g : Nat) (w : World) : (binOp BinOp.neq 111 (.map (some g)) (.map none)).run Tryz.prog w = .ok (.bool true) w := by kernel_rfl
theorem file_ne (w : World) : (binOp BinOp.neq 111 (.map none) (.map none)).run Tryz.prog w = .ok (.bool false) w := by kernel_rfl
set_option maxRecDepth 100000 in
set_option maxHeartbeats 400000 in
theorem isDir_yes {b : Nat} {g : Nat} (h : w.cell? ⟨b, 0, none⟩ = some (.map (some g))) : Calls Tryz.prog 98 #[wp b] w fun e w' => e = .returned (.bool true) ∧ w' = w := by
  have hne := dir_ne g w
  go_enter Tryz.func98, Tryz.ntmps98
  go_wp2_with fail
  go_ret
  exact ⟨rfl, rfl⟩
set_option maxRecDepth 100000 in
set_option maxHeartbeats 400000 in
theorem isDir_no {b : Nat} (h : w.cell? ⟨b, 0, none⟩ = some (.map none)) : Calls Tryz.prog 98 #[wp b] w fun e w' => e = .returned (.bool false) ∧ w' = w := by
  have hne := file_ne w
  go_enter Tryz.func98, Tryz.ntmps98
  go_wp2_with fail
  go_ret
  exact ⟨rfl, rfl⟩
end
end Go.Proofs.YtjkneekfijibiabGreatDoor

namespace Go.Proofs.YtjkneekfijibiabGreatDoor
open Go.RowKit Go.Maps

theorem cut_ok (z : List UInt8) (hz : z.length < 100000) (w : World) (m : Int) (hm : w.cell? ⟨2, 0, none⟩ = some (.int .i64 m)) :
    Calls Tryz.prog 122 #[tx z, .string ⟨#[47]⟩] w fun e w' => e = .returned (.tuple #[tx (Lib.cut z [47]).1, tx (Lib.cut z [47]).2.1, .bool (Lib.cut z [47]).2.2]) ∧ ∃ n, w' = w.drewN n := by
  have hs : (⟨z.toArray⟩ : ByteArray).size = z.length := by simp [ByteArray.size]
  exact Any.strings_Cut Tryz.cutL ⟨z.toArray⟩ ⟨#[47]⟩ m w (by rw [hs]; omega) hm

theorem drew_drew (w : World) (k j : Nat) : (w.drewN k).drewN j = w.drewN (k + j) := by simp [World.drewN, Nat.add_assoc]

theorem cut_less {q : List UInt8} (h : q ≠ []) : (Lib.cut q [47]).2.1.length < q.length := by
  have hp : 0 < q.length := List.length_pos_iff.2 h
  unfold Lib.cut
  split
  · simp only [List.length_drop, List.length_cons, List.length_nil]; omega
  · exact hp

section
variable {w w' : World} {r gN s : Nat} {T : Wd} {Z : Int → Nat} {B G : Int → Nat} {V : Int → Value} {O : Nat → Prop}

set_option maxRecDepth 100000 in
set_option maxHeartbeats 4000000 in
theorem PTr.lead_ok (h : PTr w r gN s T Z B G V O) (hT : TrOk T) (hs : 1 ≤ s) (q : List UInt8) (l : List Nm) (hq : Jn q l) (hn : ∀ x ∈ l, isName x = true) (hql : q.length < 100000) (m : Int) (hm : w.cell? ⟨2, 0, none⟩ = some (.int .i64 m)) :
    Calls Tryz.prog 69 #[wp r, tx q] w fun e w' => e = .returned (.tuple #[.int .i64 (leadT T 0 l).1, uev (leadT T 0 l).2]) ∧ ∃ n, w' = w.drewN n := by
  have hN := h.nodes_ok
  have hs0 : ((s : Int) == 0) = false := by simp; omega
  obtain ⟨R, hR⟩ : ∃ R, leadT T 0 l = R := ⟨_, rfl⟩
  rw [hR]
  go_enter Tryz.func69, Tryz.ntmps69
  go_wp2_with (go_at_call 13; refine hN.mono ?_; rintro e w' ⟨rfl, hw'⟩; subst w')
  clear hN hs0
  go_loopg [1, 6] q.length (fun mm s1 s6 wr => ∃ (q' : List UInt8) (l' : List Nm) (n : Int) (k : Nat), mm = q'.length ∧ q'.length ≤ q.length ∧ s1 = tx q' ∧ s6 = .int .i64 n ∧ Jn q' l' ∧ (∀ x ∈ l', isName x = true) ∧ (T n).isSome = true ∧ leadT T n l' = R ∧ wr = w.drewN k)
  case atStart => exact ⟨q, l, 0, 0, rfl, Nat.le_refl _, rfl, rfl, hq, hn, by obtain ⟨C, e⟩ := hT.root; rw [e]; rfl, hR, rfl⟩
  case round =>
    obtain ⟨q', l', n, k, hmm, hle, rfl, rfl, hj, hnn, hsm, hl, hw⟩ := hrel
    have h1 := h.drew k
    have hm1 : (w.drewN k).cell? ⟨2, 0, none⟩ = some (.int .i64 m) := hm
    rw [← hw] at h1 hm1
    have HW : Hidd (wr = w.drewN k) := ⟨hw⟩
    clear hw
    have c0 := h1.c0
    have hkey := hT.key n hsm
    have hwf : (Lit.int .i64 n).wf = true := wf_few hkey.1 (by omega)
    have hlk := h1.look n hwf
    rw [if_pos hsm] at hlk
    cases l' with
    | nil =>
      obtain rfl := hj.nil
      rw [leadT_nil] at hl
      subst hl
      go_wp2_with fail
      go_ret2
      exact ⟨rfl, k, HW.out⟩
    | cons x t =>
      have hqe : (q' == []) = false := by simp [hj.ne]
      have hx := hnn x List.mem_cons_self
      obtain ⟨hc1, hc2⟩ := hj.cut (fun y hy => isName_ne (hnn y (List.mem_cons_of_mem _ hy)))
      have hless := cut_less hj.ne
      have hcut := cut_ok q' (by omega) wr m hm1
      rw [hc1] at hcut
      generalize (Lib.cut q' [47]).2.1 = q2 at *
      generalize (Lib.cut q' [47]).2.2 = fnd at *
      have hxm : x.length ≤ maxLen := by have := isName_len hx; unfold maxLen; omega
      clear hc1
      by_cases hd : ∃ C, T n = some (.dir C)
      · obtain ⟨C, hC⟩ := hd
        obtain ⟨n0, _⟩ := h1.dcell hC
        have hID := isDir_yes n0
        have hSm : ∀ j, SMap (wr.drewN j) (G n) C.length (fun nm => (C.lookup nm).map (.int .i64 ·)) := fun j => (h1.dirs n C hC).keep rfl
        cases hlx : C.lookup x with
        | none =>
          rw [leadT_miss _ hC hlx] at hl
          subst hl
          clear hnn hj hc2 hq hn
          go_wp2_with (first
            | (go_at_call 98; refine hID.mono ?_; rintro e w' ⟨rfl, hw'⟩; subst w')
            | (go_at_call 122; refine hcut.mono ?_; rintro e w' ⟨rfl, j, hw'⟩; subst w'; have hSj := hSm j)
            | (at_lookup; refine wpList_sask rfl _ _ 111 rfl 3 Tryz.underlying111 _ (zero_num _) (G n) _ _ rfl hSj x rfl hxm ?_; simp only [hlx, Option.map_none, Option.getD_none, Option.isSome_none]))
          go_ret2
          exact ⟨rfl, k + j, by rw [HW.out]; exact drew_drew w k j⟩
        | some n' =>
          rw [leadT_step _ hC hlx] at hl
          have hn' := hT.child n C x n' hC hlx
          have hnt : ∀ y ∈ t, isName y = true := fun y hy => hnn y (List.mem_cons_of_mem _ hy)
          clear hnn hj hq hn
          go_wp2_with (first
            | (go_at_call 98; refine hID.mono ?_; rintro e w' ⟨rfl, hw'⟩; subst w')
            | (go_at_call 122; refine hcut.mono ?_; rintro e w' ⟨rfl, j, hw'⟩; subst w'; have hSj := hSm j)
            | (at_lookup; refine wpList_sask rfl _ _ 111 rfl 3 Tryz.underlying111 _ (zero_num _) (G n) _ _ rfl hSj x rfl hxm ?_; simp only [hlx, Option.map_some, Option.getD_some, Option.isSome_some]))
          go_roundg (q2.length)
          case measure => omega
          case rel => exact ⟨q2, t, n', k + j, rfl, by omega, rfl, rfl, hc2, hnt, hn', hl, by rw [HW.out]; exact drew_drew w k j⟩
      · rw [leadT_file _ (fun C e => hd ⟨C, e⟩)] at hl
        subst hl
        obtain ⟨fb, fh, hF⟩ : ∃ fb fh, T n = some (.file fb fh) := by
          cases e : T n with
          | none => rw [e] at hsm; cases hsm
          | some nd => cases nd with
            | dir C => exact absurd ⟨C, e⟩ hd
            | file fb fh => exact ⟨fb, fh, rfl⟩
        obtain ⟨n0, _⟩ := h1.fcell hF
        have hID := isDir_no n0
        go_wp2_with (go_at_call 98; refine hID.mono ?_; rintro e w' ⟨rfl, hw'⟩; subst w')
        go_ret2
        exact ⟨rfl, k, HW.out⟩
end
end Go.Proofs.YtjkneekfijibiabGreatDoor

namespace Go.Proofs.YtjkneekfijibiabGreatDoor
open Go.RowKit Go.Maps

theorem trimPrefix_ok (z : List UInt8) (W : World) : Calls Tryz.prog 150 #[tx z, .string ⟨#[47]⟩] W fun e w' => e = .returned (tx (Lib.trimPrefix z [47])) ∧ w' = W :=
  Any.strings_TrimPrefix Tryz.trimPrefixL ⟨z.toArray⟩ ⟨#[47]⟩ W
theorem lastByte_ok (z : List UInt8) (hz : z.length < 100000) (W : World) : Calls Tryz.prog 149 #[tx z, .int .u8 47] W fun e w' => e = .returned (.int .i64 (Lib.lastIndexByte ⟨z.toArray⟩ 47)) ∧ w' = W := by
  have hs : (⟨z.toArray⟩ : ByteArray).size = z.length := by simp [ByteArray.size]
  exact Any.strings_LastIndexByte Tryz.lastByteL ⟨z.toArray⟩ 47 (by rw [hs]; omega) W
theorem trim_len (p : List UInt8) (i : Nat) : (Lib.trimPrefix (p.take i) [47]).length ≤ p.length := by
  unfold Lib.trimPrefix
  split
  · simp; omega
  · simp; omega

section
variable {w w' : World} {r gN s : Nat} {T : Wd} {Z : Int → Nat} {B G : Int → Nat} {V : Int → Value} {O : Nat → Prop}

theorem below_drew1 {B : Nat} (h : Below B w w') : Below B w w'.drew := ⟨h.os, h.tape, h.output, h.size, h.block⟩
theorem below_drew {B : Nat} (h : Below B w w') (n : Nat) : Below B w (w'.drewN n) := ⟨h.os, h.tape, h.output, h.size, h.block⟩

set_option maxRecDepth 100000 in
set_option maxHeartbeats 4000000 in
theorem PTr.find_ok (h : PTr w r gN s T Z B G V O) (hT : TrOk T) (hs : 1 ≤ s) (p : List UInt8) (hp : p.length < 100000) (m : Int) (hm : w.cell? ⟨2, 0, none⟩ = some (.int .i64 m)) :
    Calls Tryz.prog 20 #[wp r, tx p] w fun e w' => e = .returned (.tuple #[.int .i64 (findT T p).1, uev (findT T p).2]) ∧ Below w.heap.size w w' := by
  have hI := isPath_ok p hp w
  cases hn : namesOf p with
  | none =>
    have e : findT T p = (0, 1) := by unfold findT; rw [hn]
    rw [e]
    rw [hn] at hI
    clear hn e
    go_enter Tryz.func20, Tryz.ntmps20
    go_wp2_with (go_at_call 68; refine hI.mono ?_; rintro e w1 ⟨rfl, b1⟩)
    go_ret2
    exact ⟨rfl, b1⟩
  | some l =>
    have e : findT T p = leadT T 0 l := by unfold findT; rw [hn]
    obtain ⟨q, rfl, hj, hnm⟩ := namesOf_join hn
    rw [e]
    rw [hn] at hI
    have s1 := wtext_l (47 :: q) 1 (by simp)
    have hd : (47 :: q).drop 1 = q := rfl
    rw [hd] at s1
    have hL : ∀ w1, Below w.heap.size w w1 → _ := fun w1 b1 => (h.below b1).lead_ok hT hs q l hj hnm (by simp at hp; omega) m (maxLen_kept hm b1)
    have hlen : (1 : Int) ≤ ((47 :: q).length : Int) := by simp; omega
    have hex := ext_l (47 :: q) 1
    rw [List.length_cons] at hex
    clear hn e hd
    go_enter Tryz.func20, Tryz.ntmps20
    go_wp2_with (go_at_call 68; refine hI.mono ?_; rintro e w1 ⟨rfl, b1⟩; have hL1 := hL w1 b1)
    refine hL1.mono ?_
    rintro e w2 ⟨rfl, n, hw2⟩
    subst w2
    clear hL1 hI hL
    go_wp2_with fail
    go_ret2
    exact ⟨rfl, below_drew b1 n⟩

/-- A place: a directory's names, and a name. -/
abbrev plc (m : Option Nat) (nm : List UInt8) : Value := .agg #[.map m, tx nm]
theorem plc_cells {W : World} {i : Nat} {a b : Value} (h : W.heap[i]? = some (.cells #[a, b] 132)) : W.cell? ⟨i, 0, none⟩ = some a ∧ W.cell? ⟨i, 1, none⟩ = some b ∧ W.frozen? ⟨i, 0, none⟩ = false ∧ W.frozen? ⟨i, 1, none⟩ = false := by
  refine ⟨?_, ?_, by simp [World.frozen?, h], by simp [World.frozen?, h]⟩ <;> (rw [cell_of_row W i _ _ _ _ h]; rfl)
theorem plc_put {W : World} {i : Nat} {a b : Value} (h : W.heap[i]? = some (.cells #[a, b] 132)) (x y : Value) : ((W.setCell ⟨i, 0, none⟩ x).setCell ⟨i, 1, none⟩ y).heap[i]? = some (.cells #[x, y] 132) := by
  have h1 := heap_cell_same W i 0 x _ _ _ h
  have h2 := heap_cell_same _ i 1 y _ _ _ h1
  rw [h2]; rfl

set_option maxRecDepth 100000 in
set_option maxHeartbeats 4000000 in
theorem PTr.placeOf_ok (h : PTr w r gN s T Z B G V O) (hT : TrOk T) (hs : 1 ≤ s) (p : List UInt8) (hp : p.length < 100000) (m : Int) (hm : w.cell? ⟨2, 0, none⟩ = some (.int .i64 m)) :
    Calls Tryz.prog 117 #[wp r, tx p] w fun e w' => e = .returned (.tuple #[if (placeT T p).2.2 = 0 then plc (some (G (placeT T p).1)) (placeT T p).2.1 else plc none [], uev (placeT T p).2.2]) ∧ Below w.heap.size w w' := by
  have hI := isPath_ok p hp (w.alloc (.cells #[.map none, tx []] 132))
  have bA : Below w.heap.size w (w.alloc (.cells #[.map none, tx []] 132)) := (Below.refl _ _).alloc (Nat.le_refl _) _
  have hAsz : (w.alloc (.cells #[.map none, tx []] 132)).heap.size = w.heap.size + 1 := by simp
  have hblk : ∀ w1, Below (w.alloc (.cells #[.map none, tx []] 132)).heap.size (w.alloc (.cells #[.map none, tx []] 132)) w1 → w1.heap[w.heap.size]? = some (.cells #[.map none, tx []] 132) := fun w1 b1 => (b1.block _ (by rw [hAsz]; omega)).trans (World.alloc_heap_new _ _)
  obtain ⟨R, hR⟩ : ∃ R, placeT T p = R := ⟨_, rfl⟩
  rw [hR]
  cases hn : namesOf p with
  | none =>
    have e : R = (0, [], 1) := by rw [← hR]; unfold placeT; rw [hn]
    subst e
    rw [hn] at hI
    clear hn hR
    go_enter Tryz.func117, Tryz.ntmps117
    go_wp2_with (go_at_call 68; refine hI.mono ?_; rintro e w1 ⟨rfl, b1⟩; obtain ⟨c0, c1, f0, f1⟩ := plc_cells (hblk w1 b1))
    obtain ⟨r0, r1, _, _⟩ := plc_cells (plc_put (hblk w1 b1) (.map none) (tx []))
    have b9 : Below w.heap.size w w1 := bA.trans (b1.mono (by omega))
    refine bodyPost_ret (v := .tuple #[plc none [], uer 1]) (by simp [results, Tryz.results117, go_sem, r0, r1]) rfl ⟨rfl, ?_⟩
    repeat first | exact b9 | refine Below.setCell ?_ (by first | omega | (simp <;> omega)) _
  | some l =>
    rw [hn] at hI
    by_cases h0 : p = [47]
    · have e : R = (0, [], 1) := by rw [← hR]; unfold placeT; rw [h0, namesOf_root]; rfl
      subst e
      have hq : (p == [47]) = true := by simp [h0]
      clear hn hR h0
      go_enter Tryz.func117, Tryz.ntmps117
      go_wp2_with (go_at_call 68; refine hI.mono ?_; rintro e w1 ⟨rfl, b1⟩; obtain ⟨c0, c1, f0, f1⟩ := plc_cells (hblk w1 b1))
      obtain ⟨r0, r1, _, _⟩ := plc_cells (plc_put (hblk w1 b1) (.map none) (tx []))
      have b9 : Below w.heap.size w w1 := bA.trans (b1.mono (by omega))
      refine bodyPost_ret (v := .tuple #[plc none [], uer 1]) (by simp [results, Tryz.results117, go_sem, r0, r1]) rfl ⟨rfl, ?_⟩
      repeat first | exact b9 | refine Below.setCell ?_ (by first | omega | (simp <;> omega)) _
    · have hq : (p == [47]) = false := by simp [h0]
      obtain ⟨i, hix, hi, hlast, hj⟩ := namesOf_last hn h0
      have hnm : ∀ x ∈ l.dropLast, isName x = true := fun x hx => namesOf_names hn x (List.dropLast_subset l hx)
      have hl0 : l ≠ [] := by
        obtain ⟨q, _, _, hl, _⟩ := namesOf_path hn h0
        exact hl
      have hLB := lastByte_ok p hp
      rw [hix] at hLB
      have hTP := trimPrefix_ok (p.take i)
      have htl := trim_len p i
      obtain ⟨N, hN⟩ : ∃ N, leadT T 0 l.dropLast = N := ⟨_, rfl⟩
      have hBs := hT.lead l.dropLast 0 (by obtain ⟨C, e⟩ := hT.root; rw [e]; rfl)
      rw [hN] at hBs
      have hR' : R = if N.2 ≠ 0 then (0, [], N.2) else match T N.1 with
          | some (.dir _) => (N.1, p.drop (i + 1), 0)
          | _ => (0, [], 6) := by
        rw [← hR]; unfold placeT; rw [hn, hlast]; simp only [hl0, if_false, hN]; rfl
      have hL : ∀ w1, Below w.heap.size w w1 → Calls Tryz.prog 69 #[wp r, tx (Lib.trimPrefix (p.take i) [47])] w1 fun e w' => e = .returned (.tuple #[.int .i64 N.1, uev N.2]) ∧ ∃ n, w' = w1.drewN n := fun w1 b1 => by
        have := (h.below b1).lead_ok hT hs _ _ hj hnm (by omega) m (maxLen_kept hm b1)
        rw [hN] at this
        exact this
      have s1 := wtext_h p i (by omega)
      have s2 := wtext_l p (i + 1) (by omega)
      have hex := ext_h p i
      have hex2 := ext_l p (i + 1)
      generalize Lib.trimPrefix (p.take i) [47] = tq at *
      obtain ⟨N1, N2⟩ := N
      simp only at hR' hBs hL
      clear hj hnm hlast hix hn hR hN htl
      go_enter Tryz.func117, Tryz.ntmps117
      go_wp2_with (first
        | (go_at_call 68; refine hI.mono ?_; rintro e w1 ⟨rfl, b1⟩; have hb := hblk w1 b1; have b9 : Below w.heap.size w w1 := bA.trans (b1.mono (by omega)); have hL1 := hL w1 b9)
        | (go_at_call 149; refine (hLB _).mono ?_; rintro e w' ⟨rfl, hw'⟩; subst w')
        | (go_at_call 150; refine (hTP _).mono ?_; rintro e w' ⟨rfl, hw'⟩; subst w'))
      refine hL1.mono ?_
      rintro e w2 ⟨rfl, nq, hw2⟩
      have hb2 : w2.heap[w.heap.size]? = some (.cells #[.map none, tx []] 132) := by rw [hw2]; exact hb
      have b2 : Below w.heap.size w w2 := by rw [hw2]; exact below_drew b9 nq
      have h2 := h.below b2
      obtain ⟨c0, c1, f0, f1⟩ := plc_cells hb2
      clear hL1 hL hI hb b9 b1 hw2 hblk
      by_cases hz : N2 = 0
      · subst hz
        rw [if_neg (fun e => e rfl)] at hR'
        have hsm := hBs rfl
        have hkey := hT.key N1 hsm
        have hwf : (Lit.int .i64 N1).wf = true := wf_few hkey.1 (by omega)
        have hlk := h2.look N1 hwf
        rw [if_pos hsm] at hlk
        have t0 := h2.c0
        rw [uev_zero]
        by_cases hd : ∃ C, T N1 = some (.dir C)
        · obtain ⟨C, hC⟩ := hd
          rw [hC] at hR'
          subst hR'
          obtain ⟨n0, _⟩ := h2.dcell hC
          have hID := isDir_yes n0
          have hile : (i : Int) + 1 ≤ (p.length : Int) := by omega
          have s3 : ∀ q, (Instr.slice 9 (tx p) (some (.int .i64 ((i : Int) + 1))) none none).run Tryz.prog (w2.drewN q) = .ok (tx (p.drop (i + 1))) (w2.drewN q) := fun q => wtext_l p (i + 1) (by omega) _
          clear s2 hex2
          have e9 : ∀ q, Below w.heap.size w (w2.drewN q) := fun q => below_drew b2 q
          clear hT hm hBs
          go_wp2_with (go_at_call 98; refine hID.mono ?_; rintro e w' ⟨rfl, hw'⟩; subst w')
          have cq : ∀ q, (w2.drewN q).heap[w.heap.size]? = some (.cells #[.map none, tx []] 132) := fun q => hb2
          go_region
          go_wp2_with fail
          rw [ext_l p (i + 1)]
          obtain ⟨r0, r1, _, _⟩ := plc_cells (W := ((w2.setCell ⟨w.heap.size, 0, none⟩ (.map (some (G N1)))).setCell ⟨w.heap.size, 1, none⟩ (tx (p.drop (i + 1)))).drew) (plc_put hb2 (.map (some (G N1))) (tx (p.drop (i + 1))))
          refine bodyPost_ret (v := .tuple #[plc (some (G N1)) (p.drop (i + 1)), .nilIface]) (by simp [results, Tryz.results117, go_sem, r0, r1]) rfl ⟨rfl, below_drew1 ?_⟩
          repeat first | exact b2 | refine Below.setCell ?_ (by first | omega | (simp <;> omega)) _
        · obtain ⟨fb, fh, hF⟩ : ∃ fb fh, T N1 = some (.file fb fh) := by
            cases e : T N1 with
            | none => rw [e] at hsm; cases hsm
            | some nd => cases nd with
              | dir C => exact absurd ⟨C, e⟩ hd
              | file fb fh => exact ⟨fb, fh, rfl⟩
          rw [hF] at hR'
          subst hR'
          obtain ⟨n0, _⟩ := h2.fcell hF
          have hID := isDir_no n0
          go_wp2_with (go_at_call 98; refine hID.mono ?_; rintro e w' ⟨rfl, hw'⟩; subst w')
          obtain ⟨r0, r1, _, _⟩ := plc_cells (plc_put hb2 (.map none) (tx []))
          refine bodyPost_ret (v := .tuple #[plc none [], uer 6]) (by simp [results, Tryz.results117, go_sem, r0, r1]) rfl ⟨rfl, ?_⟩
          repeat first | exact b2 | refine Below.setCell ?_ (by first | omega | (simp <;> omega)) _
      · rw [if_pos hz] at hR'
        subst hR'
        have hue := uev_ne hz
        rw [hue]
        have hres : (if N2 = 0 then plc (some (G 0)) [] else plc none []) = plc none [] := if_neg hz
        simp only
        clear hres
        go_wp2_with fail
        obtain ⟨r0, r1, _, _⟩ := plc_cells (plc_put hb2 (.map none) (tx []))
        refine bodyPost_ret (v := .tuple #[plc none [], uer N2]) (by simp [results, Tryz.results117, go_sem, r0, r1]) rfl ⟨rfl, ?_⟩
        repeat first | exact b2 | refine Below.setCell ?_ (by first | omega | (simp <;> omega)) _
end
end Go.Proofs.YtjkneekfijibiabGreatDoor

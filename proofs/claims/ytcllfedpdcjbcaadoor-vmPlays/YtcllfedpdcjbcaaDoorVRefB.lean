/- The document's own spaces: NewMem, Resident, by their Go text. -/
import Derived.Test.YtcllfedpdcjbcaaDoorVRefA
namespace Go.Proofs.YtcllfedpdcjbcaaDoor
open Go.RowKit Go.Shelf Go.Lib Go.Sort Go.Maps

set_option maxHeartbeats 1000000 in
theorem newMem_ok (w : World) (n : Nat) : Calls Tryd.prog 59 #[.int .i64 (n : Int)] w fun e w' => ∃ rm gR, e = .returned (vp rm) ∧ RM w' rm gR n 0 (fun _ => none) 0 ∧ Below w.heap.size w w' ∧ w.heap.size ≤ rm ∧ w.heap.size ≤ gR := by
  have hmm := @run_makeMap Tryd.prog
  go_enter Tryd.func59, Tryd.ntmps59
  go_wp2_with fail
  go_ret
  have hB : Below w.heap.size w ((w.alloc (.map #[] 0)).alloc (.cells #[.int .i64 (n : Int), .map (some w.heap.size), .int .i64 0] 170)) := ((Below.refl _ w).alloc (Nat.le_refl _) _).alloc (by simp) _
  refine ⟨w.heap.size + 1, w.heap.size, by simp, ⟨?_, ?_, fun x k h => by cases h⟩, hB, by omega, by omega⟩
  · show ((w.heap.push _).push _)[w.heap.size + 1]? = _
    rw [Array.getElem?_push, if_pos (by simp)]; rfl
  · have e0 : tm (fun _ => none) = fun _ => none := rfl
    rw [e0]
    refine (PMap.made w).keep ?_
    refine Eq.trans ?_ (heap_new w _).symm
    show ((w.heap.push _).push _)[w.heap.size]? = _
    rw [Array.getElem?_push, if_neg (by simp), Array.getElem?_push, if_pos rfl]

theorem resP_put {Q : PM} {x : Int} {p : Int × Int} (h0 : 0 ≤ x) (h1 : x < 64) (hq : frm Q x = -1) : resP (putP Q x p) = resP Q + if p.2 = -1 then 0 else 1 := by
  obtain ⟨X, rfl⟩ : ∃ X : Nat, x = (X : Int) := ⟨x.toNat, by omega⟩
  unfold resP
  refine sumTo_set (f := X) (d := if p.2 = -1 then 0 else 1) ?_ (fun i hi => ?_) 64 0 (by omega) (by omega)
  · rw [frm_put, if_pos rfl, hq, if_pos rfl, Nat.zero_add]
  · have hne : ¬ (i : Int) = (X : Int) := by omega
    simp only [frm_put, if_neg hne]

section
variable {w w' : World} {rm gR n nx gs : Nat} {P : PM} {D : Nat → Nat → Int} {φ : Int → Int} {t o : Int → Nat}

theorem doneP_all (P : PM) (D : Nat → Nat → Int) (φ : Int → Int) : doneP P (fun x => (rpv P D φ x).isSome) = fun _ => none := by
  funext x; simp only [doneP, rpv_isSome]; cases P x <;> rfl

set_option maxRecDepth 100000 in
set_option maxHeartbeats 4000000 in
theorem RF.resident (h : RF w rm gR n nx gs P D φ t) : Calls Tryd.prog 74 #[.map (some gs)] w fun e w' => e = .returned (.int .i64 (resP P : Nat)) ∧ Below w.heap.size w w' := by
  have hmp := h.sp
  go_enter Tryd.func74, Tryd.ntmps74
  go_wp2_with (at_range; refine wpList_krange rfl _ 114 rfl 174 Tryd.underlying114 gs _ _ rfl hmp ?_; intro w0 hr0 hg0 hs0)
  go_frame
  have b0 : Below w.heap.size w w0 := ⟨hg0.os, hg0.tape, hg0.output, hg0.size, fun i hi => hg0.block i hi (by simp)⟩
  go_loopg [3] (lenP P) (fun mm s3 wr => ∃ todo, PRng wr gs w.heap.size (lenP P) (rpv P D φ) todo mm ∧ s3 = .int .i64 (resP (doneP P todo) : Nat) ∧ Below w.heap.size w wr)
  case atStart => exact ⟨_, hr0, by rw [doneP_all, resP_none]; rfl, b0⟩
  case round =>
    clear hr0 hg0 hs0 b0
    obtain ⟨todo, hrg, rfl, b1⟩ := hrel
    go_wp2_with (at_next; refine wpList_knext rfl _ rfl gs w.heap.size _ _ _ _ rfl hrg ?_ ?_)
    · intro hl
      rw [doneP_end hl]
      go_wp2_with fail
      go_ret
      exact ⟨rfl, b1⟩
    · intro x v w1 cnt1 hwx htx hMx hrg1 hlt hg1 hs1 hen
      obtain ⟨p, hP, rfl⟩ : ∃ p, P x = some p ∧ v = rpg p.1 (rwd D p.2) (rid φ p.2) := by
        unfold rpv at hMx; cases e : P x with
        | none => rw [e] at hMx; cases hMx
        | some p => rw [e] at hMx; exact ⟨p, rfl, (Option.some.inj hMx).symm⟩
      have hx := h.ok.key x (by rw [hP]; rfl)
      have hres : resP (doneP P (fun z => todo z && !decide (z = x))) = resP (doneP P todo) + if p.2 = -1 then 0 else 1 := by
        rw [doneP_step hP]
        exact resP_put hx.1 hx.2 (frm_none (by unfold doneP; rw [if_pos htx]))
      have hle := resP_le (doneP P todo)
      have hrid : p.2 = -1 ∧ rid φ p.2 = 0 ∨ ¬ p.2 = -1 ∧ 0 < rid φ p.2 := by
        rcases h.ok.frame x with e | e <;> rw [frm_some hP] at e
        · exact .inl ⟨e, by rw [e, rid_none]⟩
        · obtain ⟨Rr, s, m, r⟩ := h.mem
          have h1 := sh_pos (a := x) h.ok (by rw [frm_some hP]; omega)
          rw [frm_some hP] at h1
          have := h.sub p.2 e.1
          have := (r.here p.2 e.1 (by omega)).2.1
          exact .inr ⟨by omega, by unfold rid; rw [if_neg (by omega)]; omega⟩
      have hgl := hmp.lt
      have b2 : ∀ ob, Below w.heap.size w (w1.alloc ob) := fun ob => by
        have b1' : Below w.heap.size w w1 := ⟨hg1.os.trans b1.os, hg1.tape.trans b1.tape, hg1.output.trans b1.output, by rw [hs1]; exact b1.size, fun i hi => (hg1.block i (by have := b1.size; omega) (fun e => by have := Option.some.inj e; omega)).trans (b1.block i hi)⟩
        exact b1'.alloc b1'.size ob
      have hrg3 : ∀ ob, PRng (w1.alloc ob) gs w.heap.size (lenP P) (rpv P D φ) (fun z => todo z && !decide (z = x)) cnt1 := fun ob => hrg1.keep (Below.heap_alloc _ _ _ (by have := b1.size; rw [hs1]; omega)) (Below.heap_alloc _ _ _ hrg1.rlt)
      obtain ⟨p1, p2⟩ := p
      simp only [rpg] at hen hres hrid
      generalize rwd D p2 = R at *
      generalize rid φ p2 = F at *
      generalize hS : resP (doneP P todo) = S at *
      clear hMx hP h hmp hrg hrg1 hs1 hg1 b1
      rcases hrid with ⟨e1, e2⟩ | ⟨e1, e2⟩
      · subst e2
        rw [if_pos e1] at hres
        go_wp2_with fail
        go_roundg cnt1
        case measure => exact hlt
        case rel => exact ⟨_, hrg3 _, by rw [hres]; rfl, b2 _⟩
      · rw [if_neg e1] at hres
        go_wp2_with fail
        go_roundg cnt1
        case measure => exact hlt
        case rel => exact ⟨_, hrg3 _, by rw [hres]; go_num, b2 _⟩
end
end Go.Proofs.YtcllfedpdcjbcaaDoor

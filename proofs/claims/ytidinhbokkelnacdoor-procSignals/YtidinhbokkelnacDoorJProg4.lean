/- Package proc: Take, by its Go text. -/
import Derived.Test.YtidinhbokkelnacDoorJProg3
namespace Go.Proofs.YtidinhbokkelnacDoor
open Go.RowKit Go.Maps Go.Sort

section
variable {w w' V : World} {t g c : Nat} {P : Ps} {n m sig pid : Int} {p : Pr}
/-- Which signals wait for it, as the program sees it. -/
def wtQ (P : Ps) (n : Int) : Int → Bool := if runsJ P n = true then wtJ P n else noSig
theorem takeS_q : takeS P n = (sigs.find? (wtQ P n)).getD 0 := by
  unfold takeS wtQ
  cases h : runsJ P n with
  | false => simp [noSig, sigs]
  | true => simp
theorem qF_wt (ok : JOk P) (dj : JD P) : (qF P n).2.2.2.1 = msk (wtQ P n) := by
  unfold qF wtQ
  cases h : P n with
  | none =>
    have : runsJ P n = false := by unfold runsJ; rw [stJ_none h]; rfl
    rw [this, if_neg (by simp), msk_no]
  | some p =>
    cases hr : runsJ P n with
    | true => simp only [if_true]; unfold wtJ; rw [h]; rfl
    | false =>
      have hs : p.state = 2 := by
        unfold runsJ at hr; rw [stJ_some h] at hr
        have := ok.st n p h
        simp only [decide_eq_false_iff_not] at hr
        omega
      simp only [Bool.false_eq_true, if_false]
      rw [dj.dead n p h hs]
theorem wtQ_in (ok : JOk P) : ∀ s, wtQ P n s = true → 1 ≤ s ∧ s ≤ 8 := fun s z => by
  unfold wtQ at z
  split at z
  · unfold wtJ at z
    cases h : P n with
    | none => rw [h] at z; cases z
    | some p => rw [h] at z; exact ok.wt n p h s z
  · cases z
theorem sigs_found {f : Int → Bool} {x : Int} (h : sigs.find? f = some x) : (1 ≤ x ∧ x ≤ 8) ∧ f x = true := by
  have h1 := List.mem_of_find?_eq_some h
  have h2 := List.find?_some h
  unfold sigs at h1
  simp only [List.mem_cons, List.not_mem_nil, or_false] at h1
  exact ⟨by omega, h2⟩
set_option maxRecDepth 100000 in
set_option maxHeartbeats 4000000 in
theorem QJ.take (h : QJ w t g P c) (hT : Tab64 w) (n : Int) (hn : (Lit.int .i64 n).wf = true) : Calls Tryd.prog 20 #[wp t, .int .i64 n] w fun e w' => e = .returned (.int .i64 (takeS P n)) ∧ QJo w t g (takeP P n) w' := by
  have hC := h.toQM.at_ok n hn
  have hw := qF_wt (n := n) h.ok h.dj
  have hL := fun W hW => least_sig W (wtQ P n) (wtQ_in h.ok) hW
  rw [← takeS_q] at hL
  have hlt := hT.lt
  have hT1 : ∀ V, Below w.heap.size w V → Tab64 V := fun V hV => hT.keep (hV.block _ hlt)
  by_cases h0 : takeS P n = 0
  · have hQ : takeP P n = P := by unfold takeP; rw [if_pos h0]
    rw [hQ, h0]
    rw [h0] at hL
    have hfin := fun V (hV : Below w.heap.size w V) => QJo.same h hV
    rw [hw] at hC
    generalize (qF P n).1 = x1 at *
    generalize (qF P n).2.1 = x2 at *
    generalize (qF P n).2.2.1 = x3 at *
    generalize (qF P n).2.2.2.2 = x5 at *
    generalize wtQ P n = f at *
    clear hw hQ h0 hT
    go_enter Tryd.func20, Tryd.ntmps20
    go_upto_region 2 with (go_at_call 25; refine hC.mono ?_; rintro e w1 ⟨rfl, hb⟩)
    have hA := hb.alloc hb.size (.cells #[.int .i64 x1, .int .i64 x2, .int .i64 x3, .int .u64 ((msk f : Nat) : Int), .int .u64 (x5 : Int)] 51)
    have hL1 := hL _ (hT1 _ hA)
    clear hL hT1 hC
    go_wp2_with (go_at_call 36; refine hL1.mono ?_; rintro e w2 ⟨rfl, hw2⟩; subst w2)
    go_ret
    exact ⟨rfl, hfin _ hA⟩
  · have hru : runsJ P n = true := by
      cases z : runsJ P n with
      | true => rfl
      | false => exact absurd (by unfold takeS; rw [if_pos z]) h0
    obtain ⟨p, hp, hst⟩ := runsJ_iff.1 hru
    have hwq : wtQ P n = p.wt := by unfold wtQ; rw [if_pos hru]; unfold wtJ; rw [hp]; rfl
    have hs8 : (1 ≤ takeS P n ∧ takeS P n ≤ 8) := by
      have e := takeS_q (P := P) (n := n)
      cases z : sigs.find? (wtQ P n) with
      | none => rw [z] at e; exact absurd e h0
      | some x => rw [z] at e; rw [e]; exact (sigs_found z).1
    have hd := h.dj.dis n p hp
    have hQ : takeP P n = onJ P n (fun p => { p with wt := putS p.wt (takeS P n) false }) := by unfold takeP; rw [if_neg h0]
    have hok := h.ok.take n
    rw [hQ] at hok ⊢
    have hput := fun V hV => @QJ.turn w V t g c P n p h hV hp (fun p => { p with wt := putS p.wt (takeS P n) false }) hok (fun s z => by
      rcases putS_true z with ⟨_, z⟩ | z
      · cases z
      · exact hd s z) (fun z => by simp only at z; omega)
    have hig := igQ_run hst
    have hq : qv { p with wt := putS p.wt (takeS P n) false } = .agg #[.int .i64 1, .int .i64 p.parent, .int .i64 p.code, mv (putS p.wt (takeS P n) false), mv p.ig] := by
      unfold qv igQ; simp only [hst, if_true]
    simp only [hq] at hput
    have hF : qF P n = (1, p.parent, p.code, msk p.wt, msk p.ig) := by unfold qF; rw [hp]; simp only [hst, hig]
    rw [hF] at hC
    rw [hwq] at hL
    have hon := fun W => only_ok W (takeS P n) hs8
    have hwo := fun W => without_ok W p.wt (oneS (takeS P n))
    rw [less_one] at hwo
    have hco := fun V (hV : Below w.heap.size w V) => (h.toQM.below hV).c0
    have HPU : Aside _ := hput
    have HCO : Aside _ := hco
    have h0b : (takeS P n == 0) = false := by simpa using h0
    simp only at hC
    clear hw hQ hT hwq hd hok hput hq hig hF hco hs8
    generalize onJ P n (fun p => { p with wt := putS p.wt (takeS P n) false }) = P2 at *
    generalize putS p.wt (takeS P n) false = f2 at *
    generalize oneS (takeS P n) = o1 at *
    generalize takeS P n = S at *
    go_enter Tryd.func20, Tryd.ntmps20
    go_upto_region 2 with (go_at_call 25; refine hC.mono ?_; rintro e w1 ⟨rfl, hb⟩)
    have hA0 := hb.alloc hb.size (.cells #[.int .i64 1, .int .i64 p.parent, .int .i64 p.code, .int .u64 ((msk p.wt : Nat) : Int), .int .u64 ((msk p.ig : Nat) : Int)] 51)
    have hL1 := hL _ (hT1 _ hA0)
    clear hL hT1 hC
    have hA := hb.alloc hb.size (.cells #[.int .i64 1, .int .i64 p.parent, .int .i64 p.code, .int .u64 ((msk f2 : Nat) : Int), .int .u64 ((msk p.ig : Nat) : Int)] 51)
    obtain ⟨w5, hrun, h5⟩ := HPU.out _ (belowJ_dr (belowJ_dr hA))
    have c2 := HCO.out _ (belowJ_dr hA)
    clear hA hA0
    go_upto_region 5 with (go_at_call 36; refine hL1.mono ?_; rintro e w2 ⟨rfl, hw2⟩; subst w2)
    go_region_with (first
      | (go_at_call 35; refine (hon _).mono ?_; rintro e w2 ⟨rfl, hw⟩; subst w2)
      | (go_at_call 34; refine (hwo _).mono ?_; rintro e w2 ⟨rfl, hw⟩; subst w2))
    all_goals
      clear hwo hon hL1
      go_upto_region 6 with fail
      go_region
      all_goals
        go_wp2_with fail
        go_ret
        exact ⟨rfl, h5⟩
end
end Go.Proofs.YtidinhbokkelnacDoor

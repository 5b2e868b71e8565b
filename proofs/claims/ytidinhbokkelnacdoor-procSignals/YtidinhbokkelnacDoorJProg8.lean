/- Package proc: Wait, by its Go text. -/
import Derived.Test.YtidinhbokkelnacDoorJProg7
namespace Go.Proofs.YtidinhbokkelnacDoor
open Go.RowKit Go.Maps Go.Sort Go.Shelf Go.Lib

section
variable {w w' V : World} {t g c : Nat} {P : Ps} {n m sig pid k code : Int} {p q : Pr}
theorem idx_find (f : Int → Bool) (d : Int) : ∀ (zs : List Int) (i : Nat), (∃ j, ∃ hj : j < zs.length, idxByFrom (fun _ y => f y) d zs i = ((i + j : Nat) : Int) ∧ zs.find? f = some zs[j]) ∨ (idxByFrom (fun _ y => f y) d zs i = -1 ∧ zs.find? f = none)
  | [], i => .inr ⟨rfl, rfl⟩
  | z :: zs, i => by
    by_cases h : f z = true
    · exact .inl ⟨0, by simp, by simp [idxByFrom, h], by simp [h]⟩
    · rcases idx_find f d zs (i + 1) with ⟨j, hj, h1, h2⟩ | ⟨h1, h2⟩
      · exact .inl ⟨j + 1, by simp; omega, by simp [idxByFrom, h, h1]; omega, by simp [h, h2]⟩
      · exact .inr ⟨by simp [idxByFrom, h, h1], by simp [h, h2]⟩
def isDead (P : Ps) (n : Int) : Bool := decide (stJ P n = 2)
theorem own_find (P : Ps) (pid : Int) : (ownL P pid).find? (isDead P) = (pidsJ P).find? (deadJ P pid) := by
  unfold ownL
  rw [List.find?_filter]
  congr 1
  funext x
  unfold ownJ isDead deadJ
  simp
theorem own_any (P : Ps) (pid : Int) : (pidsJ P).any (ownJ P pid) = true ↔ (ownL P pid).length ≠ 0 := by
  unfold ownL
  rw [List.any_eq_true, Ne, List.length_eq_zero_iff, List.filter_eq_nil_iff]
  constructor
  · rintro ⟨x, hx, h⟩ z; exact z x hx h
  · intro z
    apply Classical.byContradiction
    intro h
    exact z (fun x hx h2 => h ⟨x, hx, h2⟩)
set_option maxHeartbeats 1000000 in
theorem isDead_ok (h : QM w t g P c) {x : Nat} (hx : w.cell? ⟨x, 0, none⟩ = some (wp t)) (n : Int) (hn : (Lit.int .i64 n).wf = true) :
    Calls Tryd.prog 29 #[.int .i64 n, .pointer (some ⟨x, 0, none⟩)] w fun e w' => e = .returned (.bool (isDead P n)) ∧ Below w.heap.size w w' := by
  have hS := h.state n hn
  have hv : isDead P n = (stJ P n == 2) := by unfold isDead; by_cases e : stJ P n = 2 <;> simp [e]
  rw [hv]
  generalize stJ P n = r at *
  go_enter Tryd.func29, Tryd.ntmps29
  go_wp2_with (go_at_call 21; refine hS.mono ?_; rintro e w1 ⟨rfl, hb⟩)
  go_ret
  exact ⟨rfl, hb⟩
theorem JD.del (h : JD P) (n : Int) : JD (delJ P n) := ⟨fun i p e => h.dis i p (delJ_some e).2, fun i p e => h.dead i p (delJ_some e).2⟩
theorem QJ.del (h : QJ w t g P c) (hV : Below w.heap.size w V) (hq : P n = some q) (hd : q.state = 2) : ∃ w', (∀ ty, (Builtin.delete_ #[52, 3] ty #[.map (some g), .int .i64 n]).run Tryd.prog V = .ok (.tuple #[]) w') ∧ QJo w t g (delJ P n) w' := by
  have hk := h.key n q hq
  have hv := h.below hV
  obtain ⟨w', hrun, m', g'⟩ := hv.map.del Tryd.underlying52 n (wf64 (by omega)) 0
  refine ⟨w', fun ty => by rw [← hrun]; rfl, (if (P n).isSome then c - 1 else c), ⟨⟨(g'.block t hv.tlt (fun z => h.gt (Option.some.inj z).symm)).trans hv.head, ?_, fun i p e => h.key i p (delJ_some e).2⟩, h.ok.del (by rw [stJ_some hq]; exact hd), h.dj.del n⟩, (Wt.below _ hV).trans (.grown g' rfl)⟩
  · have : (fun i => if i = n then none else (P i).map qv) = fun i => (delJ P n i).map qv := by
      funext i; unfold delJ; split <;> rfl
    rw [this, Option.isSome_map] at m'
    exact m'
set_option maxRecDepth 100000 in
set_option maxHeartbeats 4000000 in
theorem QJ.wait (h : QJ w t g P c) (pid : Int) (hn : (Lit.int .i64 pid).wf = true) : Calls Tryd.prog 14 #[wp t, .int .i64 pid] w fun e w' => e = .returned (.tuple #[.int .i64 (waitO P pid).1, .int .i64 (waitO P pid).2.1, uev (waitO P pid).2.2.1]) ∧ QJo w t g (waitO P pid).2.2.2 w' := by
  have hA : Below w.heap.size w (w.alloc (.cells #[wp t] 24)) := (Below.refl _ w).alloc (Nat.le_refl _) _
  obtain ⟨wA, hwA⟩ : ∃ wA, w.alloc (.cells #[wp t] 24) = wA := ⟨_, rfl⟩
  rw [hwA] at hA
  have hszA : wA.heap.size = w.heap.size + 1 := by rw [← hwA]; show (w.heap.push _).size = _; rw [Array.size_push]
  have x1 : wA.cell? ⟨w.heap.size, 0, none⟩ = some (wp t) := by
    rw [← hwA, cell_of_row _ _ _ _ _ _ (show (w.heap.push _)[w.heap.size]? = some _ by rw [Array.getElem?_push, if_pos rfl])]
    rfl
  have hr := (h.below hA).toQM.runs pid hn
  cases hru : runsJ P pid with
  | false =>
    rw [hru, if_neg (by simp), uev_ne (by omega)] at hr
    have hW : waitO P pid = (0, 0, 7, P) := by unfold waitO; rw [if_pos hru]
    simp only [hW]
    rw [uev_ne (show (7 : Int) ≠ 0 by omega)]
    clear hszA
    go_enter Tryd.func14, Tryd.ntmps14
    go_wp2_with (go_at_call 11; refine hr.mono ?_; rintro e w1 ⟨rfl, hb⟩)
    go_ret3
    exact ⟨rfl, .same h (hA.trans (hb.mono hA.size))⟩
  | true =>
    rw [hru, if_pos rfl, uev_zero] at hr
    obtain ⟨q0, hq0, _⟩ := runsJ_iff.1 hru
    have hps : (P pid).isSome = true := by rw [hq0]; rfl
    have hown := fun W (hW : Below w.heap.size w W) => (h.below hW).toQM.own hps pid
    have hlen := ownL_len P pid
    have hfd := own_find P pid
    have han := own_any P pid
    have hmem := fun x (hx : x ∈ ownL P pid) => ownL_mem (P := P) (pid := pid) hx
    have HA : Aside (Below w.heap.size w wA) := hA
    have HSZ : Aside (wA.heap.size = w.heap.size + 1) := hszA
    have hix : ∀ W b cap, Below wA.heap.size wA W → b < W.heap.size → (∀ j (hj : j < (ownL P pid).length), W.cell? ⟨b, j, none⟩ = some (.int .i64 (ownL P pid)[j])) → Calls Tryd.prog 28 #[.slice (some ⟨b, 0, none⟩) (ownL P pid).length cap, .func (.func 29) #[] #[.pointer (some ⟨w.heap.size, 0, none⟩)]] W fun e w' => e = .returned (.int .i64 (idxBy (fun _ y => isDead P y) (ownL P pid) default)) ∧ Below W.heap.size W w' := fun W b cap hW hb hc => by
      refine idxF_ok (Ok := fun V => QM V t g P c ∧ V.cell? ⟨w.heap.size, 0, none⟩ = some (wp t)) (p := isDead P) (enters_of Tryd.func29 (by kernel_rfl) rfl) (fun V x hV hx => ?_) (fun V hV => ?_) (by omega) hb (fun j hj => by rw [hc j hj, getElem!_pos _ j hj])
      · obtain ⟨r, hr⟩ := Option.isSome_iff_exists.1 (hmem x hx)
        have := h.key x r hr
        exact isDead_ok hV.1 hV.2 x (wf64 (by omega))
      · have hb2 : Below wA.heap.size wA V := hW.trans (hV.mono hW.size)
        exact ⟨(h.below hA).toQM.below hb2, by rw [hb2.cell (p := ⟨w.heap.size, 0, none⟩) (by show w.heap.size < _; omega)]; exact x1⟩
    have HIX : Aside _ := hix
    have HOW : Aside _ := hown
    have hW0 : (ownL P pid).find? (isDead P) = none → waitO P pid = (0, 0, if (ownL P pid).length = 0 then 8 else 6, P) := fun z => by
      unfold waitO
      rw [if_neg (by rw [hru]; simp), ← hfd, z]
      simp only
      by_cases e : (ownL P pid).length = 0
      · rw [if_pos e, if_neg (fun z => (han.1 z) e)]
      · rw [if_neg e, if_pos (han.2 e)]
    have hW1 : ∀ x, (ownL P pid).find? (isDead P) = some x → waitO P pid = (x, codeJ P x, 0, delJ P x) := fun x z => by
      unfold waitO
      rw [if_neg (by rw [hru]; simp), ← hfd, z]
    have HW0 : Aside _ := hW0
    have HW1 : Aside _ := hW1
    clear hown hix hW0 hW1 hfd han hszA hA
    generalize hLL : ownL P pid = L at *
    clear hLL
    go_enter Tryd.func14, Tryd.ntmps14
    go_upto_region 4 with (go_at_call 11; refine hr.mono ?_; rintro e w1 ⟨rfl, hb⟩)
    have hA1 : Below w.heap.size w w1 := HA.out.trans (hb.mono HA.out.size)
    have y1 : w1.cell? ⟨w.heap.size, 0, none⟩ = some (wp t) := by rw [hb.cell (p := ⟨w.heap.size, 0, none⟩) (by have := HSZ.out; show w.heap.size < _; omega)]; exact x1
    have hO := HOW.out w1 hA1
    clear hr
    by_cases hl0 : L.length = 0
    · have hLn : L = [] := List.eq_nil_of_length_eq_zero hl0
      have hW := HW0.out (by rw [hLn]; rfl)
      rw [if_pos hl0] at hW
      have HW : Aside _ := hW
      have hO2 : Calls Tryd.prog 26 #[wp t, .int .i64 pid] w1 fun e w' => ∃ b cap, e = .returned (.slice (some ⟨b, 0, none⟩) 0 cap) ∧ Below w1.heap.size w1 w' := hO.mono (by
        rintro e w' ⟨b, cap, z1, _, _, _, _, z2⟩
        rw [hl0] at z1
        exact ⟨b, cap, z1, z2⟩)
      clear hO
      clear hW hLn
      go_wp2_with (go_at_call 26; refine hO2.mono ?_; rintro e w2 ⟨b, cap, rfl, hbel⟩)
      go_ret3
      rw [HW.out]
      exact ⟨rfl, .same h (hA1.trans (hbel.mono hA1.size))⟩
    · have hl1 : ((L.length : Int) == 0) = false := by simpa using hl0
      have hl2 : ¬ ((L.length : Int) = 0) := by omega
      go_upto_region 7 with (go_at_call 26; refine hO.mono ?_; rintro e w2 ⟨b, cap, rfl, hcap, hb1, hb2, hcc, hbel⟩)
      have bA2 : Below wA.heap.size wA w2 := hb.trans (hbel.mono hb.size)
      have hIx := HIX.out w2 b cap bA2 hb2 hcc
      have hz2 := hbel.size
      have y2 : w2.cell? ⟨w.heap.size, 0, none⟩ = some (wp t) := by rw [bA2.cell (p := ⟨w.heap.size, 0, none⟩) (by have := HSZ.out; show w.heap.size < _; omega)]; exact x1
      rcases idx_find (isDead P) default L 0 with ⟨j, hj, e1, e2⟩ | ⟨e1, e2⟩
      · rw [show idxBy (fun _ y => isDead P y) L default = ((0 + j : Nat) : Int) from e1, Nat.zero_add] at hIx
        have hW := HW1.out _ e2
        obtain ⟨r, hr⟩ := Option.isSome_iff_exists.1 (hmem _ (List.getElem_mem hj))
        have hst : r.state = 2 := by
          have := List.find?_some e2
          unfold isDead at this
          rw [stJ_some hr] at this
          simpa using this
        have hcd : codeJ P L[j] = r.code := by unfold codeJ; rw [hr]; rfl
        rw [hcd] at hW
        have HW : Aside _ := hW
        have hk := h.key _ r hr
        have hcj := hcc j hj
        have hjn : ¬ ((j : Int) < 0) := by omega
        have hjl : (j : Int) < (L.length : Int) := by omega
        clear e1 e2 hW hcc hcd
        generalize L[j] = X at *
        have HF : Aside (∀ W, Below w2.heap.size w2 W → W.cell? ⟨b, j, none⟩ = some (.int .i64 X) ∧ W.cell? ⟨w.heap.size, 0, none⟩ = some (wp t) ∧ QJ W t g P c ∧ Below w.heap.size w W) := fun W hW => by
          have b3 : Below w.heap.size w w2 := hA1.trans (hbel.mono hA1.size)
          have b4 := b3.trans (hW.mono b3.size)
          refine ⟨by rw [hW.cell (p := ⟨b, j, none⟩) hb2]; exact hcj, ?_, h.below b4, b4⟩
          rw [hW.cell (p := ⟨w.heap.size, 0, none⟩) (World.block_lt_of_cell? w2 _ y2)]; exact y2
        go_upto_region 10 with (go_at_call 28; refine hIx.mono ?_; rintro e w3 ⟨rfl, hb3⟩)
        obtain ⟨z1, z2, z3, z4⟩ := HF.out w3 hb3
        have l3 := z3.toQM.lookS hr (wf64 (by omega))
        have c3 := z3.toQM.c0
        have f3 := (qv_f r.state r.parent r.code (msk r.wt : Nat) (msk (igQ r) : Nat) w3).2.2.1
        obtain ⟨w5, hrun, h5⟩ := h.del z4 hr hst
        rw [hst] at l3 f3
        clear hIx hO z3 hcj y1 y2 HF hst
        go_wp2_with (at_delete; refine wpList_delete_run rfl _ _ 52 3 rfl _ _ _ w5 rfl rfl hrun ?_)
        go_ret3
        rw [HW.out]
        exact ⟨rfl, h5⟩
      · rw [show idxBy (fun _ y => isDead P y) L default = -1 from e1] at hIx
        have hW := HW0.out e2
        rw [if_neg hl0] at hW
        have HW : Aside _ := hW
        clear e1 e2 hW hcc
        go_wp2_with (go_at_call 28; refine hIx.mono ?_; rintro e w3 ⟨rfl, hb3⟩)
        go_ret3
        have b3 : Below w.heap.size w w2 := hA1.trans (hbel.mono hA1.size)
        rw [HW.out]
        exact ⟨rfl, .same h (b3.trans (hb3.mono b3.size))⟩
end
end Go.Proofs.YtidinhbokkelnacDoor

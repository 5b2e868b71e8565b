/- The document's own Wait, by its Go text. -/
import Derived.Test.YtidinhbokkelnabDoorJRef5
import Derived.Test.YtidinhbokkelnabDoorJRef7
namespace Go.Proofs.YtidinhbokkelnabDoor
open Go.RowKit Go.Maps Go.Sort Go.Shelf Go.Lib

section
variable {w w' : World} {t c : Nat} {P : Ps} {G : JG} {pid n : Int} {q : Pr}
theorem RJo.drew {P' : Ps} (h : RJo w t P' G w') : RJo w t P' G w'.drew := by
  obtain ⟨G', c', a, b⟩ := h
  exact ⟨G', c', a.keep (fun _ _ => rfl) (Nat.le_refl _), b.trans (.below (belowJ_dr (Below.refl _ _)))⟩
theorem RJ.del (h : RJ w t P G c) (hq : P n = some q) (hd : q.state = 2) : ∃ w', (∀ ty, (Builtin.delete_ #[115, 3] ty #[.map (some G.g), .int .i64 n]).run Tryd.prog w = .ok (.tuple #[]) w') ∧ RJ w' t (delJ P n) G (c - 1) ∧ Stp w w' G.own G.own := by
  have hk := h.ok.key n q hq
  obtain ⟨w', hrun, m', g⟩ := h.map.del Tryd.underlying115 n (wf64 (by omega)) 0
  have hs : (P n).isSome = true := by rw [hq]; rfl
  rw [Option.isSome_map, hs, if_pos rfl] at m'
  have st : ∀ i, i < w.heap.size → i ≠ G.g → w'.heap[i]? = w.heap[i]? := fun i hi hne => g.block i hi (fun z => hne (Option.some.inj z))
  have o : ∀ i y, G.kap i = some y → i < w.heap.size := fun i y z => h.lt i (by rw [z]; rfl)
  have is : ∀ i, (delJ P n i).isSome = true → (P i).isSome = true := fun i z => by
    obtain ⟨p, hp⟩ := Option.isSome_iff_exists.1 z
    rw [(delJ_some hp).2]; rfl
  refine ⟨w', fun ty => by rw [← hrun]; rfl, ⟨(st t (o _ _ h.kt) h.gt.symm).trans h.head, ?_, fun i p e => ?_, fun i p e => ?_, h.kt, h.kg, fun i z => h.kw i (is i z), fun i z => h.ki i (is i z), fun i z => Nat.lt_of_lt_of_le (h.lt i z) g.size, h.ok.del (by rw [stJ_some hq]; exact hd)⟩, ⟨.grown g (by unfold JG.own; rw [h.kg]; rfl), fun _ z => .inl z⟩⟩
  · have : (fun i => if i = n then none else (P i).map (fun p => prv p (G.W i) (G.I i))) = fun i => (delJ P n i).map (fun p => prv p (G.W i) (G.I i)) := by
      funext i; unfold delJ; split <;> rfl
    rw [this] at m'
    exact m'
  · obtain ⟨s, m⟩ := h.wt i p (delJ_some e).2
    exact ⟨s, m.keep (st _ m.lt (h.wg (by rw [(delJ_some e).2]; rfl)).1)⟩
  · obtain ⟨s, m⟩ := h.ig i p (delJ_some e).2
    exact ⟨s, m.keep (st _ m.lt (h.ig' (by rw [(delJ_some e).2]; rfl)).1)⟩
set_option maxRecDepth 100000 in
set_option maxHeartbeats 4000000 in
theorem RJ.wait (h : RJ w t P G c) (pid : Int) (hn : (Lit.int .i64 pid).wf = true) : Calls Tryd.prog 57 #[wp t, .int .i64 pid] w fun e w' => e = .returned (.tuple #[.int .i64 (waitO P pid).1, .int .i64 (waitO P pid).2.1, .int .i64 (waitO P pid).2.2.1]) ∧ RJo w t (waitO P pid).2.2.2 G w' := by
  have c0 := h.c0
  have hr := h.runs pid hn
  cases hru : runsJ P pid with
  | false =>
    rw [hru] at hr
    have hW : waitO P pid = (0, 0, 7, P) := by unfold waitO; rw [if_pos hru]
    rw [hW]
    go_enter Tryd.func57, Tryd.ntmps57
    go_wp2_with (go_at_call 68; refine hr.mono ?_; rintro e w1 ⟨rfl, hw⟩; subst w1)
    go_ret3
    exact ⟨rfl, .same h⟩
  | true =>
    rw [hru] at hr
    have hP := h.pids
    have hS : ∀ i (hi : i < (pidsJ P).length), (∀ j (hj : j < (pidsJ P).length), j < i → deadJ P pid (pidsJ P)[j] = false) → deadJ P pid (pidsJ P)[i] = true → waitO P pid = ((pidsJ P)[i], codeJ P (pidsJ P)[i], 0, delJ P (pidsJ P)[i]) := fun i hi ha hd => by
      unfold waitO; rw [if_neg (by rw [hru]; simp), wait_at hi ha hd]
    have hN : (∀ j (hj : j < (pidsJ P).length), deadJ P pid (pidsJ P)[j] = false) → waitO P pid = (0, 0, wtE P pid (pidsJ P), P) := fun ha => by
      unfold waitO; rw [if_neg (by rw [hru]; simp), wait_no ha]; rfl
    have hlen := pidsJ_len P
    have hmem : ∀ i (hi : i < (pidsJ P).length), ∃ q, P (pidsJ P)[i] = some q := fun i hi => Option.isSome_iff_exists.1 (h.ok.pids.1 (List.getElem_mem hi))
    generalize pidsJ P = L at *
    have HSS : Aside _ := hS
    have HNN : Aside _ := hN
    clear hS hN
    go_enter Tryd.func57, Tryd.ntmps57
    go_wp2_with (first
      | (go_at_call 68; refine hr.mono ?_; rintro e w1 ⟨rfl, hw⟩; subst w1)
      | (go_at_call 64; refine hP.mono ?_; rintro e w1 ⟨b, cap, rfl, hcap, hb1, hb2, hbc, hbel⟩))
    clear hP hr c0
    go_loopg [7, 18] L.length (fun mm s7 s18 wr => ∃ i : Nat, i + mm = L.length ∧ s18 = .int .i64 (i : Int) ∧ s7 = .int .i64 (wtE P pid (L.take i)) ∧ Below w1.heap.size w1 wr ∧ ∀ j (hj : j < L.length), j < i → deadJ P pid L[j] = false)
    case atStart => exact ⟨0, by omega, rfl, rfl, Below.refl _ _, fun j _ hj => by omega⟩
    case round =>
      obtain ⟨i, hi, rfl, rfl, hbr, hno⟩ := hrel
      have bel : Below w.heap.size w wr := hbel.trans (hbr.mono hbel.size)
      have hR := h.below bel
      by_cases hlt : (i : Int) < (L.length : Int)
      · have hiL : i < L.length := by omega
        have cb : wr.cell? ⟨b, i, none⟩ = some (.int .i64 L[i]) := by rw [hbr.cell (p := ⟨b, i, none⟩) hb2]; exact hbc i hiL
        obtain ⟨q, hq⟩ := hmem i hiL
        have hk := h.ok.key _ q hq
        have c0 := hR.c0
        have hl := hR.lookS hq (wf64 (by omega))
        have htl : t < wr.heap.size := World.block_lt_of_cell? wr _ c0
        have hA : ∀ o, Below wr.heap.size wr (wr.alloc o) := fun o => (Below.refl _ wr).alloc (Nat.le_refl _) o
        have hpj : parJ P L[i] = q.parent := parJ_some hq
        have hsj : stJ P L[i] = q.state := stJ_some hq
        have hcj : codeJ P L[i] = q.code := by unfold codeJ; rw [hq]; rfl
        have hcap' : (i : Int) < (cap : Int) := by omega
        by_cases hpp : q.parent = pid
        · by_cases hd : q.state = 2
          · have hdd : deadJ P pid L[i] = true := by unfold deadJ; rw [hpj, hsj]; simpa using ⟨hpp, hd⟩
            have hW := HSS.out i hiL hno hdd
            rw [hcj] at hW
            have hR2 := hR.below (hA (.cells #[.int .i64 q.parent, .int .i64 q.state, .int .i64 q.code, .map (some (G.W L[i])), .map (some (G.I L[i]))] 114))
            obtain ⟨w5, hrun, h5, s5⟩ := hR2.del hq hd
            have e0 := hR2.c0
            have hgg : G.g ≠ wr.heap.size := by have := hR.map.lt; omega
            have hfin : RJo w t (delJ P L[i]) G w5 := .of h5 ((Stp.below bel).trans ((Stp.below (hA _)).trans s5))
            have HW : Aside _ := hW
            have hkeep : w5.cell? ⟨wr.heap.size, 2, none⟩ = some (.int .i64 q.code) := by
              have hno : ¬ G.own wr.heap.size := fun z => by have := hR.lt _ z; omega
              rw [World.cell?_of_block (w := wr.alloc (.cells #[.int .i64 q.parent, .int .i64 q.state, .int .i64 q.code, .map (some (G.W L[i])), .map (some (G.I L[i]))] 114)) (a := ⟨wr.heap.size, 2, none⟩) (s5.wt.block wr.heap.size (by simp) hno)]
              rw [cell_of_row _ _ _ _ _ _ (show (wr.heap.push _)[wr.heap.size]? = some _ by rw [Array.getElem?_push, if_pos rfl])]
              rfl
            obtain ⟨qpar, qst, qcode, qwt, qig⟩ := q
            simp only at hpp hd hl hrun hkeep HW e0
            subst hpp hd
            generalize L[i] = X at *
            clear hW hR hR2 hno hbr hbc hdd hpj hsj hcj h5 s5 HSS HNN hmem h
            go_upto_region 11 with (at_delete; refine wpList_delete_run rfl _ _ 115 3 rfl _ _ _ w5 rfl rfl hrun ?_)
            go_region
            all_goals
              go_wp2_with fail
              go_ret3
              rw [HW.out]
              exact ⟨rfl, hfin.drew⟩
          · have hdd : deadJ P pid L[i] = false := by unfold deadJ; rw [hpj, hsj]; simp; intro _; exact hd
            have hoo : ownJ P pid L[i] = true := by unfold ownJ; rw [hpj]; simpa using hpp
            have hd' : (q.state == 2) = false := by simpa using hd
            have hrel2 : wtE P pid (L.take (i + 1)) = 6 := by rw [take_add hiL, wtE_add, if_pos hoo]
            have HRL : Aside _ := hrel2
            obtain ⟨qpar, qst, qcode, qwt, qig⟩ := q
            simp only at hpp hd hl hd'
            subst hpp
            clear hrel2 hR hpj hsj hcj
            go_wp2_with fail
            go_roundg (gk - 1)
            case measure => omega
            case rel => exact ⟨i + 1, by omega, by go_num, by rw [HRL.out], hbr.alloc hbr.size _, fun j hj hji => by
              by_cases e : j = i
              · subst e; exact hdd
              · exact hno j hj (by omega)⟩
        · have hdd : deadJ P pid L[i] = false := by unfold deadJ; rw [hpj]; simp [hpp]
          have hoo : ownJ P pid L[i] = false := by unfold ownJ; rw [hpj]; simpa using hpp
          have hp' : (q.parent == pid) = false := by simpa using hpp
          have hrel2 : wtE P pid (L.take (i + 1)) = wtE P pid (L.take i) := by rw [take_add hiL, wtE_add, if_neg (by rw [hoo]; simp)]
          have HRL : Aside _ := hrel2
          clear hrel2 hR hpj hsj hcj
          go_wp2_with fail
          go_roundg (gk - 1)
          case measure => omega
          case rel => exact ⟨i + 1, by omega, by go_num, by rw [HRL.out], hbr.alloc hbr.size _, fun j hj hji => by
            by_cases e : j = i
            · subst e; exact hdd
            · exact hno j hj (by omega)⟩
      · have hiL : i = L.length := by omega
        have hW := HNN.out (fun j hj => hno j hj (by omega))
        have HW : Aside _ := hW
        have hfin : RJo w t P G wr := .of hR (.below bel)
        have HT : Aside (L.take i = L) := by rw [hiL]; exact List.take_length
        clear hW hR hno hbr hbc HSS HNN hmem hiL
        go_wp2_with fail
        go_ret3
        rw [HW.out, HT.out]
        exact ⟨rfl, hfin⟩
end
end Go.Proofs.YtidinhbokkelnabDoor

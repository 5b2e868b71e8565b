/- Package desc: Fork, by its Go text. -/
import Derived.Test.YtjkneekfijibiabGreatDoorQFree
namespace Go.Proofs.YtjkneekfijibiabGreatDoor
open Go.RowKit Go.Maps

theorem fork_take {D : DS} {N : Ns} {i : Nat} (hi : i < N.length) : forkD D (N.take (i + 1)) = if 0 < N[i].1 then incR (forkD D (N.take i)) N[i].1 else forkD D (N.take i) := by
  unfold forkD
  rw [List.take_succ_eq_append_getElem hi, List.foldl_append]
  rfl
theorem fork_E (D : DS) : ∀ l : Ns, (forkD D l).E = D.E
  | [] => rfl
  | x :: l => by
    unfold forkD
    rw [List.foldl_cons]
    have h := fork_E (if 0 < x.1 then incR D x.1 else D) l
    unfold forkD at h
    rw [h]
    split <;> rfl
/-- The first numbers of a table; the others are free. -/
def upTo (N : Ns) (i : Nat) : Ns := N.take i ++ List.replicate (8 - i) (0, false)
theorem upTo_len {N : Ns} (h : N.length = 8) {i : Nat} (hi : i ≤ 8) : (upTo N i).length = 8 := by
  unfold upTo; rw [List.length_append, List.length_take, List.length_replicate]; omega
theorem upTo_all {N : Ns} (h : N.length = 8) : upTo N 8 = N := by
  unfold upTo; rw [List.take_of_length_le (by omega)]; simp
theorem upTo_set {N : Ns} (h : N.length = 8) {i : Nat} (hi : i < 8) : (upTo N i).set i (N[i]'(by omega)) = upTo N (i + 1) := by
  unfold upTo
  rw [List.set_append, List.length_take, if_neg (by omega), show 8 - i = (8 - (i + 1)) + 1 by omega, List.replicate_succ, List.take_succ_eq_append_getElem (by omega), show i - min i N.length = 0 by omega, List.append_assoc]
  rfl
theorem upTo_free {N : Ns} (h : N.length = 8) {i : Nat} (hi : i < 8) (h0 : N[i]'(by omega) = (0, false)) : upTo N (i + 1) = upTo N i := by
  rw [← upTo_set h hi, h0]
  unfold upTo
  rw [List.set_append, List.length_take, if_neg (by omega), show 8 - i = (8 - (i + 1)) + 1 by omega, List.replicate_succ, show i - min i N.length = 0 by omega]
  rfl
section
variable {w w' w2 w0 w1 : World} {f b n q k j : Nat} {D D' D1 D2 : DS} {g g' g1 : QG} {M M1 N N' N1 N2 : Ns} {d m : Int} {e : En} {T' : Wd} {Ts : List Ns}
/-- So many numbers forked. -/
structure FkS (w W : World) (f b n : Nat) (D : DS) (g : QG) (M N : Ns) (i : Nat) : Prop where
  q : QF W f (forkD D (N.take i)) g n
  t : QTb W b g M N
  u : QTb W w.heap.size g (upTo M i) (upTo N i)
  wt : Wt (fun i => (g.kap i).isSome = true) w W
  lt : b < w.heap.size
theorem FkS.below {W : World} {i : Nat} (h : FkS w W f b n D g M N i) (hb : Below W.heap.size W w') : FkS w w' f b n D g M N i := ⟨h.q.below hb, h.t.below hb, h.u.below hb, h.wt.trans (Wt.below _ hb), h.lt⟩
theorem kap_new (h : QF w f D g n) : g.kap w.heap.size = none := by
  cases e : g.kap w.heap.size with
  | none => rfl
  | some t => have := h.lt _ (by rw [e]; rfl); omega
/-- One more. -/
theorem FkS.give {W : World} {i : Nat} (h : FkS w W f b n D g M N i) (I : Inv D Ts k) (hj : j < Ts.length) (hN : Ts[j] = N) (hi : i < 8) (hiM : i < M.length) (hiL : i < N.length) (h0 : 0 < N[i].1) :
    Calls Tryz.prog 78 #[wp f, wp w.heap.size, .int .i64 (i : Int), .int .i64 M[i].1] W fun x w' => x = .returned (.tuple #[]) ∧ w'.cell? ⟨b, i * 2 + 1, none⟩ = some (.bool M[i].2) ∧ (∃ v, w'.cell? ⟨w.heap.size, i * 2 + 1, none⟩ = some v) ∧ w'.frozen? ⟨w.heap.size, i * 2 + 1, none⟩ = false ∧ ∀ V, V.heap = (w'.setCell ⟨w.heap.size, i * 2 + 1, none⟩ (.bool M[i].2)).heap → V.os = w'.os → V.tape = w'.tape → V.output = w'.output → FkS w V f b n D g M N (i + 1) := by
  have hk := h.t.keyOf hiM hiL h0
  have hMl := h.t.tab.len
  have hNl := h.t.len
  have hIc := InvC.fork (N.take i) I.core (fun x hx hx0 => by
    rw [← hN] at hx
    obtain ⟨y, hy, rfl⟩ := List.getElem_of_mem (List.mem_of_mem_take hx)
    exact cntS_pos hj hy)
  have hcp : 0 < cntS N[i].1 Ts := by
    have := cntS_pos (Ts := Ts) (j := j) (i := i) hj (by rw [hN]; exact hiL)
    simp only [hN] at this
    exact this
  have h64 := I.few64 N[i].1
  have hcl := cntN_le N[i].1 (N.take i)
  rw [List.length_take] at hcl
  obtain ⟨e, cl⟩ := hIc.cl h0 (by omega) (by omega)
  have hR := cl.cnt
  refine (h.q.give_go h.u hi hk h0 cl.ent hR (by omega) cl.c1).mono ?_
  rintro x w' ⟨rfl, a1, a2, hG⟩
  have hk0 := (h.q.key _ _ hk).2.1
  have hub : (upTo M i).length = 8 := upTo_len hMl (by omega)
  have hwt := hG.wt
  have hbw : b ≠ w.heap.size := fun e9 => by have := h.lt; omega
  have hbk : w'.heap[b]? = W.heap[b]? := hwt.block b h.t.tab.lt (by
    rintro (z | z)
    · rw [h.t.off] at z; cases z
    · exact hbw z)
  have t1 : QTb w' b g M N := h.t.keep hbk
  refine ⟨rfl, (t1.tab.at hi).2, ⟨_, (a2.tab.at hi).2⟩, a2.tab.free _, fun V hV ho ht hou => ?_⟩
  have hm0 : ((upTo M i).set i (M[i].1, false))[i]'(by rw [List.length_set, hub]; exact hi) = (M[i].1, false) := List.getElem_set_self _
  have tm := a2.tab.mark hi M[i].2 (by rw [hm0]; simp only; omega)
  rw [hm0] at tm
  simp only [List.set_set] at tm
  have hMi : (upTo M i).set i (M[i].1, M[i].2) = upTo M (i + 1) := upTo_set hMl hi
  have hNi : (upTo N i).set i (N[i].1, N[i].2) = upTo N (i + 1) := upTo_set hNl hi
  have tu := a2.set (i := i) (M[i].1, M[i].2) (N[i].1, N[i].2) (by rw [List.set_set]; exact tm) ⟨(h.t.rel i hiM hiL).1, .inr ⟨h0, hk⟩⟩
  rw [List.set_set, List.set_set, hMi, hNi] at tu
  have gg := tgrown_set w' w.heap.size (i * 2 + 1) (.bool M[i].2)
  have q1 := a1.offTab h.u.off gg
  have hsz : V.heap.size = (w'.setCell ⟨w.heap.size, i * 2 + 1, none⟩ (.bool M[i].2)).heap.size := by rw [hV]
  have hD : forkD D (N.take (i + 1)) = incR (forkD D (N.take i)) N[i].1 := by rw [fork_take hiL, if_pos h0]
  refine ⟨by rw [hD]; exact q1.keep (fun x _ => by rw [hV]) (by omega), t1.keep (by rw [hV]; exact gg.block b (t1.tab.lt) (fun z => hbw (Option.some.inj z))), tu.keep (by rw [hV]), ?_, h.lt⟩
  refine ⟨ho.trans (hwt.os.trans h.wt.os), ht.trans (hwt.tape.trans h.wt.tape), hou.trans (hwt.output.trans h.wt.output), ?_, fun x hx hA => ?_⟩
  · have := gg.size; have := hwt.size; have := h.wt.size; omega
  · have := h.wt.size
    have := hwt.size
    rw [hV, gg.block x (by omega) (fun z => by have := Option.some.inj z; omega), hwt.block x (by omega) (by
      rintro (z | z)
      · exact hA z
      · omega)]
    exact h.wt.block x hx hA
/-- A number that is free. -/
theorem FkS.skip {W : World} {i : Nat} (h : FkS w W f b n D g M N i) (hi : i < 8) (hiM : i < M.length) (hiL : i < N.length) (h0 : ¬ 0 < N[i].1) : FkS w W f b n D g M N (i + 1) := by
  have hr := h.t.rel i hiM hiL
  have hM0 : M[i].1 = 0 ∧ N[i].1 = 0 := by
    rcases hr.2 with z | z
    · exact z
    · exact absurd z.1 h0
  have hm := (h.t.tab.nn hiM).2.2 hM0.1
  have hMi : M[i] = (0, false) := Prod.ext hM0.1 hm
  have hNi : N[i] = (0, false) := Prod.ext hM0.2 (hr.1.trans hm)
  refine ⟨by rw [fork_take hiL, if_neg h0]; exact h.q, h.t, ?_, h.wt, h.lt⟩
  rw [upTo_free h.t.tab.len hi hMi, upTo_free h.t.len hi hNi]
  exact h.u
theorem FkS.first (h : QF w f D g n) (t : QTb w b g M N) : FkS w (w.alloc (.cells (nv (List.replicate 8 (0, false))).toArray 69)) f b n D g M N 0 := by
  have bA : Below w.heap.size w (w.alloc (.cells (nv (List.replicate 8 (0, false))).toArray 69)) := (Below.refl _ w).alloc (Nat.le_refl _) _
  have hn : (w.alloc (.cells (nv (List.replicate 8 (0, false))).toArray 69)).heap[w.heap.size]? = some (.cells (nv (List.replicate 8 (0, false))).toArray 69) := by
    show (w.heap.push _)[w.heap.size]? = _
    rw [Array.getElem?_push, if_pos rfl]
  refine ⟨h.below bA, t.below bA, ⟨⟨hn, rfl, fun x hx => ?_⟩, kap_new h, rfl, fun i h1 h2 => ?_⟩, Wt.below _ bA, t.tab.lt⟩
  · have := List.eq_of_mem_replicate (show x ∈ List.replicate 8 ((0 : Int), false) from hx)
    rw [this]; simp
  · have e1 : (upTo M 0)[i] = (0, false) := List.eq_of_mem_replicate (show (upTo M 0)[i] ∈ List.replicate 8 ((0 : Int), false) from List.getElem_mem h1)
    have e2 : (upTo N 0)[i] = (0, false) := List.eq_of_mem_replicate (show (upTo N 0)[i] ∈ List.replicate 8 ((0 : Int), false) from List.getElem_mem h2)
    exact ⟨(congrArg Prod.snd e2).trans (congrArg Prod.snd e1).symm, .inl ⟨congrArg Prod.fst e1, congrArg Prod.fst e2⟩⟩
set_option maxRecDepth 100000 in
set_option maxHeartbeats 4000000 in
theorem QF.fork_ok (h : QF w f D g n) (t : QTb w b g M N) (I : Inv D Ts k) (hj : j < Ts.length) (hN : Ts[j] = N) :
    Calls Tryz.prog 29 #[wp f, wp b] w fun y w' => y = .returned (wp w.heap.size) ∧ QF w' f (forkD D N) g n ∧ QTb w' b g M N ∧ QTb w' w.heap.size g M N ∧ Wt (fun i => (g.kap i).isSome = true) w w' := by
  have hF0 := FkS.first h t
  have HL : Aside (N.length = 8 ∧ M.length = 8) := ⟨t.len, t.tab.len⟩
  have HG : Aside (∀ (W : World) (i : Nat), FkS w W f b n D g M N i → i < 8 → ∀ (hiM : i < M.length) (hiL : i < N.length), 0 < N[i].1 → Calls Tryz.prog 78 #[wp f, wp w.heap.size, .int .i64 (i : Int), .int .i64 M[i].1] W fun x w' => x = .returned (.tuple #[]) ∧ w'.cell? ⟨b, i * 2 + 1, none⟩ = some (.bool M[i].2) ∧ (∃ v, w'.cell? ⟨w.heap.size, i * 2 + 1, none⟩ = some v) ∧ w'.frozen? ⟨w.heap.size, i * 2 + 1, none⟩ = false ∧ ∀ V, V.heap = (w'.setCell ⟨w.heap.size, i * 2 + 1, none⟩ (.bool M[i].2)).heap → V.os = w'.os → V.tape = w'.tape → V.output = w'.output → FkS w V f b n D g M N (i + 1)) := fun W i hF hi hiM hiL h0 => hF.give I hj hN hi hiM hiL h0
  have HFd : Aside (∀ (W : World) (i : Nat), FkS w W f b n D g M N i → i < 8 → ∀ (hiM : i < M.length) (hiL : i < N.length), 0 < N[i].1 → Calls Tryz.prog 77 #[wp f, wp b, .int .i64 (i : Int)] W fun x w' => ∃ q, x = .returned (.tuple #[wp q, .nilIface]) ∧ FkS w w' f b n D g M N i ∧ w'.cell? ⟨b, i * 2, none⟩ = some (.int .i64 M[i].1)) := fun W i hF hi hiM hiL h0 => by
    refine (hF.q.find_yes hF.t hi hiL h0).mono ?_
    rintro x w' ⟨rfl, b1⟩
    have hF1 := hF.below b1
    exact ⟨_, rfl, hF1, (hF1.t.tab.at hi).1⟩
  have HFn : Aside (∀ (W : World) (i : Nat), FkS w W f b n D g M N i → i < 8 → ∀ (hiL : i < N.length), N[i].1 ≤ 0 → Calls Tryz.prog 77 #[wp f, wp b, .int .i64 (i : Int)] W fun x w' => x = .returned (.tuple #[.pointer none, uer 7]) ∧ FkS w w' f b n D g M N (i + 1)) := fun W i hF hi hiL h0 => by
    refine (hF.q.find_no hF.t i (by unfold hasN; rw [getD_in hiL]; simp; omega)).mono ?_
    rintro x w' ⟨rfl, b1⟩
    exact ⟨rfl, (hF.below b1).skip hi (by have := hF.t.tab.len; omega) hiL (by omega)⟩
  clear h t I hj hN
  go_enter Tryz.func29, Tryz.ntmps29
  go_wp2_with fail
  go_loopg [6, 7, 8, 11] 8 (fun mm _ _ _ s11 wx => ∃ i : Nat, Aside (i + mm = 8) ∧ s11 = .int .i64 (i : Int) ∧ FkS w wx f b n D g M N i)
  case atStart => exact ⟨0, rfl, rfl, hF0⟩
  case round =>
    obtain ⟨i, HI, rfl, hF⟩ := hrel
    have hi9' : (i : Int) ≤ 8 := by have := HI.out; omega
    by_cases hlt : (i : Int) < 8
    · have HiL : Aside (i < N.length) := by show i < N.length; have := HL.out; omega
      have HiM : Aside (i < M.length) := by show i < M.length; have := HL.out; omega
      have Hi8 : Aside (i < 8) := by show i < 8; omega
      by_cases h0 : 0 < (N[i]'HiL.out).1
      · have hFi := HFd.out _ i hF Hi8.out HiM.out HiL.out h0
        have H0 : Aside (0 < (N[i]'HiL.out).1) := h0
        have HGv : Aside (∀ W, FkS w W f b n D g M N i → _) := fun W hW => HG.out W i hW Hi8.out HiM.out HiL.out H0.out
        generalize (M[i]'HiM.out).1 = X at *
        generalize (M[i]'HiM.out).2 = Y at *
        clear h0 hF H0
        go_upto_region 7 with (go_at_call 77; refine hFi.mono ?_; rintro x w2 ⟨q, rfl, hF2, c2⟩)
        have hGv := HGv.out _ hF2
        clear hFi hF2
        go_upto_region 8 with (go_at_call 78; refine hGv.mono ?_; rintro x w3 ⟨rfl, c3, ⟨v, c4⟩, z4, hN⟩)
        have HN : Aside _ := hN
        clear hN hGv c2
        go_region
        all_goals
          go_wp2_with fail
          go_roundg (7 - i)
          case measure => have := HI.out; omega
          case rel => exact ⟨i + 1, (show i + 1 + (7 - i) = 8 by omega), by rfl, HN.out _ rfl rfl rfl rfl⟩
      · have hFi := HFn.out _ i hF Hi8.out HiL.out (by omega)
        clear h0 hF
        go_wp2_with (go_at_call 77; refine hFi.mono ?_; rintro x w2 ⟨rfl, hF2⟩)
        go_roundg (7 - i)
        case measure => have := HI.out; omega
        case rel => exact ⟨i + 1, (show i + 1 + (7 - i) = 8 by omega), by rfl, hF2⟩
    · have h8 : i = 8 := by omega
      subst h8
      have hq := hF.q
      have hu := hF.u
      have ht := hF.t
      have hw := hF.wt
      rw [List.take_of_length_le (by have := HL.out; omega)] at hq
      rw [upTo_all HL.out.1, upTo_all HL.out.2] at hu
      clear hF
      go_wp2_with fail
      go_ret
      exact ⟨rfl, hq, ht, hu, hw⟩
end
end Go.Proofs.YtjkneekfijibiabGreatDoor

namespace Go.Proofs.YtjkneekfijibiabGreatDoor
open Go.RowKit Go.Maps

section
variable {w w' w2 w0 w1 : World} {r : Nat} {T : Wd} {O : Nat → Prop}
theorem tre_ne (b : Nat) (w : World) : (binOp BinOp.eql 23 (wp b) (.pointer none)).run Tryz.prog w = .ok (.bool false) w := by kernel_rfl
theorem tre_nil (w : World) : (binOp BinOp.eql 23 (.pointer none) (.pointer none)).run Tryz.prog w = .ok (.bool true) w := by kernel_rfl
theorem QNew.nil (w : World) : Calls Tryz.prog 27 #[.pointer none] w fun y w' => y = .returned (.tuple #[.pointer none, uer 7]) ∧ w' = w := by
  have h9 := tre_nil
  go_enter Tryz.func27, Tryz.ntmps27
  go_wp2_with fail
  go_ret2
  exact ⟨rfl, rfl⟩
theorem QF.made (h : PT w r T O) : ∃ g, QF ((w.alloc (.map #[] 0)).alloc (.cells #[wp r, .map (some w.heap.size)] 144)) (w.heap.size + 1) (noneD T) g 0 ∧ (∀ i, i < w.heap.size → ((g.kap i).isSome = true ↔ O i)) ∧ g.r = r := by
  classical
  have b1 : Below w.heap.size w (w.alloc (.map #[] 0)) := (Below.refl _ w).alloc (Nat.le_refl _) _
  have hs1 : (w.alloc (.map #[] 0)).heap.size = w.heap.size + 1 := by simp
  have b2 : Below w.heap.size w ((w.alloc (.map #[] 0)).alloc (.cells #[wp r, .map (some w.heap.size)] 144)) := b1.alloc (by omega) _
  have hs2 : ((w.alloc (.map #[] 0)).alloc (.cells #[wp r, .map (some w.heap.size)] 144)).heap.size = w.heap.size + 1 + 1 := by
    show ((w.alloc (.map #[] 0)).heap.push _).size = _
    rw [Array.size_push, hs1]
  have hO : ∀ i, O i → i < w.heap.size := fun i hi => h.lt i hi
  have hk : ∀ i, O i → (if i = w.heap.size + 1 then some Tag.head else if i = w.heap.size then some Tag.mp else if O i then some Tag.tree else none) = some Tag.tree := fun i hi => by
    have := hO i hi
    rw [if_neg (by omega), if_neg (by omega), if_pos hi]
  refine ⟨⟨r, w.heap.size, fun _ => none, fun _ => 0, fun _ => 0, fun i => if i = w.heap.size + 1 then some .head else if i = w.heap.size then some .mp else if O i then some .tree else none⟩, ⟨?_, ⟨O, h.below b2, hk⟩, ?_, fun d e he => (by cases he), fun k d he => (by cases he), fun d he => (by cases he), fun k k' d he => (by cases he), fun p x he => (by cases he), if_pos rfl, ?_, fun i hi => ?_⟩, fun i hi => ?_, rfl⟩
  · show ((w.alloc (.map #[] 0)).heap.push _)[w.heap.size + 1]? = _
    rw [Array.getElem?_push, if_pos hs1.symm]
  · exact (PMap.made w).keep (Below.heap_alloc _ _ _ (by rw [hs1]; omega))
  · show (if w.heap.size = w.heap.size + 1 then some Tag.head else if w.heap.size = w.heap.size then some Tag.mp else _) = some Tag.mp
    rw [if_neg (by omega), if_pos rfl]
  · have hi' : (if i = w.heap.size + 1 then some Tag.head else if i = w.heap.size then some Tag.mp else if O i then some Tag.tree else none).isSome = true := hi
    rw [hs2]
    by_cases e1 : i = w.heap.size + 1
    · omega
    · by_cases e2 : i = w.heap.size
      · omega
      · rw [if_neg e1, if_neg e2] at hi'
        by_cases e3 : O i
        · have := hO i e3; omega
        · rw [if_neg e3] at hi'; cases hi'
  · show ((if i = w.heap.size + 1 then some Tag.head else if i = w.heap.size then some Tag.mp else if O i then some Tag.tree else none).isSome = true ↔ O i)
    rw [if_neg (by omega), if_neg (by omega)]
    by_cases e3 : O i
    · simp [e3]
    · simp [e3]
theorem QNew.ok (h : PT w r T O) : Calls Tryz.prog 27 #[wp r] w fun y w' => ∃ f g, y = .returned (.tuple #[wp f, .nilIface]) ∧ QF w' f (noneD T) g 0 ∧ (∀ i, i < w.heap.size → ((g.kap i).isSome = true ↔ O i)) ∧ g.r = r ∧ Below w.heap.size w w' := by
  have h9 := tre_ne r
  have hmm := @run_makeMap Tryz.prog
  have hM := QF.made h
  have b1 : Below w.heap.size w (w.alloc (.map #[] 0)) := (Below.refl _ w).alloc (Nat.le_refl _) _
  have hs1 : (w.alloc (.map #[] 0)).heap.size = w.heap.size + 1 := by simp
  have b2 : Below w.heap.size w ((w.alloc (.map #[] 0)).alloc (.cells #[wp r, .map (some w.heap.size)] 144)) := b1.alloc (by omega) _
  have HM : Aside (∃ g, QF ((w.alloc (.map #[] 0)).alloc (.cells #[wp r, .map (some w.heap.size)] 144)) (w.heap.size + 1) (noneD T) g 0 ∧ (∀ i, i < w.heap.size → ((g.kap i).isSome = true ↔ O i)) ∧ g.r = r) := hM
  clear hM hs1 b1 h
  go_enter Tryz.func27, Tryz.ntmps27
  go_wp2_with fail
  go_ret2
  obtain ⟨g, a1, a2, a3⟩ := HM.out
  exact ⟨w.heap.size + 1, g, rfl, a1, a2, a3, b2⟩
end
end Go.Proofs.YtjkneekfijibiabGreatDoor

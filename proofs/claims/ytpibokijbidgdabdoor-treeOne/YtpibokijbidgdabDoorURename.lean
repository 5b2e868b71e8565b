/- Package tree: Rename, by its Go text. -/
import Derived.Test.YtpibokijbidgdabDoorULink
namespace Go.Proofs.YtpibokijbidgdabDoor
open Go.RowKit Go.Maps

theorem prefixP_ok (p q : List UInt8) (w : World) :
    Calls Tryd.prog 79 #[tx p, tx q] w fun e w' => e = .returned (.bool (q.isPrefixOf p)) ∧ w' = w :=
  Any.strings_HasPrefix Tryd.prefixUL ⟨p.toArray⟩ ⟨q.toArray⟩ w

theorem renameE_zero {T : Wd} (hT : TrOk T) {p q : List UInt8} (h : renameE T p q = 0) : (placeT T p).2.2 = 0 ∧ isName (placeT T p).2.1 = true ∧ (∃ C n, T (placeT T p).1 = some (.dir C) ∧ C.lookup (placeT T p).2.1 = some n) ∧ (placeT T q).2.2 = 0 ∧ isName (placeT T q).2.1 = true ∧ (∃ C, T (placeT T q).1 = some (.dir C) ∧ C.lookup (placeT T q).2.1 = none) ∧ (p ++ [47]).isPrefixOf q = false := by
  unfold renameE at h
  by_cases hz : (placeT T p).2.2 = 0
  · rw [if_neg (fun e => e hz)] at h
    obtain ⟨⟨C, hd⟩, hnm⟩ := placeT_dir hT hz
    by_cases hh : hasT T (placeT T p).1 (placeT T p).2.1 = none
    · rw [if_pos hh] at h; omega
    · rw [if_neg hh] at h
      rw [hasT_eq hd] at hh
      obtain ⟨n, hl⟩ : ∃ n, C.lookup (placeT T p).2.1 = some n := by
        cases e : C.lookup (placeT T p).2.1 with
        | none => exact absurd e hh
        | some n => exact ⟨n, rfl⟩
      by_cases hz2 : (placeT T q).2.2 = 0
      · rw [if_neg (fun e => e hz2)] at h
        obtain ⟨⟨C2, hd2⟩, hnm2⟩ := placeT_dir hT hz2
        rw [hasT_eq hd2] at h
        cases hl2 : C2.lookup (placeT T q).2.1 with
        | some n2 => rw [hl2] at h; simp at h
        | none =>
          rw [hl2] at h
          simp only [Option.isSome_none, Bool.false_eq_true, if_false] at h
          refine ⟨hz, hnm, ⟨C, n, hd, hl⟩, hz2, hnm2, ⟨C2, hd2, hl2⟩, ?_⟩
          cases e : (p ++ [47]).isPrefixOf q with
          | false => rfl
          | true => rw [e] at h; simp at h
      · rw [if_pos hz2] at h; exact absurd h hz2
  · rw [if_pos hz] at h; exact absurd h hz

section
variable {w w' : World} {r gN s : Nat} {T : Wd} {Z : Int → Nat} {B G : Int → Nat} {V : Int → Value} {O : Nat → Prop}

theorem cat_slash (p : List UInt8) : ((⟨p.toArray⟩ : ByteArray) ++ ⟨#[47]⟩) = ⟨(p ++ [47]).toArray⟩ := wtext_cat p [47]

set_option maxRecDepth 100000 in
set_option maxHeartbeats 4000000 in
theorem PT.rename_no (h : PT w r T O) (hT : TrLv T) (p q : List UInt8) (hp : p.length < 100000) (hq : q.length < 100000) (m : Int) (hm : w.cell? ⟨1, 0, none⟩ = some (.int .i64 m)) (hE : renameE T p q ≠ 0) :
    Calls Tryd.prog 39 #[wp r, tx p, tx q] w fun e w' => e = .returned (uer (renameE T p q)) ∧ Below w.heap.size w w' := by
  obtain ⟨gN, s, B, G, V, h⟩ := h
  have hs1 := h.num.pos hT.toTrOk
  unfold renameE at hE ⊢
  by_cases hz : (placeT T p).2.2 = 0
  · rw [if_neg (fun e => e hz)] at hE ⊢
    cases hh : hasT T (placeT T p).1 (placeT T p).2.1 with
    | none =>
      rw [if_pos rfl]
      have hTk := h.taken_none hT.toTrOk hs1 p hp m hm hz hh
      clear hE hh
      go_enter Tryd.func39, Tryd.ntmps39
      go_wp2_with (go_at_call 77; refine hTk.mono ?_; rintro e w1 ⟨rfl, b1⟩)
      go_ret
      refine ⟨rfl, ?_⟩
      repeat first | exact b1 | refine Below.alloc ?_ (by first | omega | (have := b1.size; omega) | (simp <;> omega)) _
    | some n =>
      rw [hh] at hE
      rw [if_neg (by simp)] at hE ⊢
      have hTk := h.taken_some hT.toTrOk hs1 p hp m hm hz hh
      have bAB : ∀ w1, Below w.heap.size w w1 → ∀ o, Below w.heap.size w (w1.alloc o) := fun w1 b1 o => b1.alloc b1.size _
      by_cases hz2 : (placeT T q).2.2 = 0
      · rw [if_neg (fun e => e hz2)] at hE ⊢
        cases hh2 : hasT T (placeT T q).1 (placeT T q).2.1 with
        | some n' =>
          rw [if_pos (show (some n').isSome = true from rfl)]
          have hFr := fun w1 (b1 : Below w.heap.size w w1) => (h.below b1).free_twice hT.toTrOk hs1 q hq m (maxLen_kept hm b1) hz2 hh2
          clear hE hh hh2 hz hz2
          generalize (placeT T p).1 = d at *
          generalize (placeT T p).2.1 = nm at *
          go_enter Tryd.func39, Tryd.ntmps39
          go_wp2_with (first
            | (go_at_call 77; refine hTk.mono ?_; rintro e w1 ⟨rfl, b1⟩; have hFr1 := hFr _ (bAB w1 b1 (.cells #[.map (some (G d)), tx nm] 144)))
            | (go_at_call 78; refine hFr1.mono ?_; rintro e w2 ⟨rfl, b2⟩))
          go_ret
          have b8 := bAB w1 b1 (.cells #[.map (some (G d)), tx nm] 144)
          have b9 : Below w.heap.size w w2 := b8.trans (b2.mono b8.size)
          refine ⟨rfl, ?_⟩
          repeat first | exact b9 | refine Below.alloc ?_ (by first | omega | (have := b9.size; omega) | (simp <;> omega)) _
        | none =>
          rw [hh2] at hE
          simp only [Option.isSome_none, Bool.false_eq_true, if_false] at hE ⊢
          cases hpx : (p ++ [47]).isPrefixOf q with
          | false => rw [hpx] at hE; exact absurd (by simp) hE
          | true =>
            rw [if_pos rfl]
            have hFr := fun w1 (b1 : Below w.heap.size w w1) => (h.below b1).free_ok hT.toTrOk hs1 q hq m (maxLen_kept hm b1) hz2 hh2
            have hPx := prefixP_ok q (p ++ [47])
            rw [hpx] at hPx
            have hcat := cat_slash p
            have hbig : ¬ 9223372036854775807 < p.length + 1 := by omega
            clear hE hh hh2 hz hz2 hpx
            generalize (placeT T p).1 = d at *
            generalize (placeT T p).2.1 = nm at *
            generalize (placeT T q).1 = d2 at *
            generalize (placeT T q).2.1 = nm2 at *
            generalize p ++ [47] = p2 at *
            go_enter Tryd.func39, Tryd.ntmps39
            go_wp2_with (first
              | (go_at_call 77; refine hTk.mono ?_; rintro e w1 ⟨rfl, b1⟩; have hFr1 := hFr _ (bAB w1 b1 (.cells #[.map (some (G d)), tx nm] 144)))
              | (go_at_call 78; refine hFr1.mono ?_; rintro e w2 ⟨rfl, b2⟩)
              | (go_at_call 79; refine (hPx _).mono ?_; rintro e w' ⟨rfl, hw'⟩; subst w'))
            go_ret
            have b8 := bAB w1 b1 (.cells #[.map (some (G d)), tx nm] 144)
            have b9 : Below w.heap.size w w2 := b8.trans (b2.mono b8.size)
            refine ⟨rfl, ?_⟩
            repeat first | exact b9 | refine Below.alloc ?_ (by first | omega | (have := b9.size; omega) | (simp <;> omega)) _
      · rw [if_pos hz2] at hE ⊢
        have hFr := fun w1 (b1 : Below w.heap.size w w1) => (h.below b1).free_bad hT.toTrOk hs1 q hq m (maxLen_kept hm b1) hz2
        clear hE hh hz
        generalize (placeT T p).1 = d at *
        generalize (placeT T p).2.1 = nm at *
        generalize (placeT T q).2.2 = z at *
        go_enter Tryd.func39, Tryd.ntmps39
        go_wp2_with (first
          | (go_at_call 77; refine hTk.mono ?_; rintro e w1 ⟨rfl, b1⟩; have hFr1 := hFr _ (bAB w1 b1 (.cells #[.map (some (G d)), tx nm] 144)))
          | (go_at_call 78; refine hFr1.mono ?_; rintro e w2 ⟨rfl, b2⟩))
        go_ret
        have b8 := bAB w1 b1 (.cells #[.map (some (G d)), tx nm] 144)
        have b9 : Below w.heap.size w w2 := b8.trans (b2.mono b8.size)
        refine ⟨rfl, ?_⟩
        repeat first | exact b9 | refine Below.alloc ?_ (by first | omega | (have := b9.size; omega) | (simp <;> omega)) _
  · rw [if_pos hz] at hE ⊢
    have hTk := h.taken_bad hT.toTrOk hs1 p hp m hm hz
    generalize (placeT T p).2.2 = z at *
    go_enter Tryd.func39, Tryd.ntmps39
    go_wp2_with (go_at_call 77; refine hTk.mono ?_; rintro e w1 ⟨rfl, b1⟩)
    go_ret
    refine ⟨rfl, ?_⟩
    repeat first | exact b1 | refine Below.alloc ?_ (by first | omega | (have := b1.size; omega) | (simp <;> omega)) _

/-- What Rename leaves. -/
theorem rename_turn (hT : TrLv T) {d n d2 : Int} {nm nm2 : Nm} {C C2 : List (Nm × Int)} (hd : T d = some (.dir C)) (hl : C.lookup nm = some n) (hd2 : T d2 = some (.dir C2)) (hl2 : C2.lookup nm2 = none) (hnm2 : isName nm2 = true) :
    ∃ C3, delT T d nm d2 = some (.dir C3) ∧ C3.lookup nm2 = none ∧ C3.length ≤ C2.length ∧ (∀ k, cntT (addT (delT T d nm) d2 nm2 n) k = cntT T k) ∧ TrLv (addT (delT T d nm) d2 nm2 n) := by
  obtain ⟨C3, hd3, hl3, hlen⟩ := delT_at (d := d) (nm := nm) hd2 hl2
  have hok : TrOk (delT T d nm) := hT.toTrOk.del d nm
  have hc : ∀ k, cntT (addT (delT T d nm) d2 nm2 n) k = cntT T k := fun k => by
    rw [cnt_add hok hd3]; exact cnt_del hT.toTrOk hd hl k
  have hsome := hT.child d C nm n hd hl
  have hsd : ∀ k nd, delT T d nm k = some nd → ∃ nd', T k = some nd' ∧ heldT nd' = heldT nd := fun k nd e => by
    by_cases e1 : k = d
    · subst e1; rw [delT_eq hd, setT_same] at e; cases e; exact ⟨_, hd, rfl⟩
    · rw [delT_eq hd, setT_other _ e1] at e; exact ⟨nd, e, rfl⟩
  refine ⟨C3, hd3, hl3, hlen, hc, ?_⟩
  refine { toTrOk := hok.add hd3 hl3 hnm2 (by rw [delT_some]; exact hsome), nr := by rw [hc]; exact hT.nr, lv := fun k nd e => ?_ }
  rw [hc]
  have : ∃ nd', T k = some nd' ∧ heldT nd' = heldT nd := by
    by_cases e1 : k = d2
    · subst e1; rw [addT_eq hd3, setT_same] at e; cases e
      obtain ⟨nd', h1, h2⟩ := hsd k _ hd3
      exact ⟨nd', h1, h2⟩
    · rw [addT_eq hd3, setT_other _ e1] at e; exact hsd k nd e
  obtain ⟨nd', h1, h2⟩ := this
  rw [← h2]
  exact hT.lv k nd' h1
theorem TrLv.rename (hT : TrLv T) (p q : List UInt8) : TrLv (renameN T p q) := by
  unfold renameN
  by_cases hE : renameE T p q = 0
  · rw [if_neg (fun e => e hE)]
    obtain ⟨_, _, ⟨C, n, hd, hl⟩, _, hnm2, ⟨C2, hd2, hl2⟩, _⟩ := renameE_zero hT.toTrOk hE
    rw [hasT_eq hd, hl]
    obtain ⟨_, _, _, _, _, h⟩ := rename_turn hT hd hl hd2 hl2 hnm2
    exact h
  · rw [if_pos hE]; exact hT

set_option maxRecDepth 100000 in
set_option maxHeartbeats 4000000 in
theorem PT.rename_yes (h : PT w r T O) (hT : TrLv T) (p q : List UInt8) (hp : p.length < 100000) (hq : q.length < 100000) (m : Int) (hm : w.cell? ⟨1, 0, none⟩ = some (.int .i64 m)) (hC : ∀ k C, T k = some (.dir C) → C.length ≤ 1000) (hE : renameE T p q = 0) :
    Calls Tryd.prog 39 #[wp r, tx p, tx q] w fun e w' => e = .returned .nilIface ∧ PT w' r (renameN T p q) O ∧ Stp w w' O O := by
  obtain ⟨gN, s, B, G, V, h⟩ := h
  have hs1 := h.num.pos hT.toTrOk
  have hTok := hT.toTrOk
  obtain ⟨hz, hnm, ⟨C, n, hd, hl⟩, hz2, hnm2, ⟨C2, hd2, hl2⟩, hpx⟩ := renameE_zero hTok hE
  have hU : renameN T p q = addT (delT T (placeT T p).1 (placeT T p).2.1) (placeT T q).1 (placeT T q).2.1 n := by unfold renameN; rw [if_neg (fun e => e hE), hasT_eq hd, hl]; rfl
  have hTk := h.taken_some hTok hs1 p hp m hm hz (n := n) (by rw [hasT_eq hd]; exact hl)
  have hFr := fun w1 (b1 : Below w.heap.size w w1) => (h.below b1).free_ok hTok hs1 q hq m (maxLen_kept hm b1) hz2 (by rw [hasT_eq hd2]; exact hl2)
  obtain ⟨C3, hd3, hl3, hlen3, hcc, _⟩ := rename_turn hT hd hl hd2 hl2 hnm2
  have hPx := prefixP_ok q (p ++ [47])
  rw [hpx] at hPx
  have hcat := cat_slash p
  have hbig : ¬ 9223372036854775807 < p.length + 1 := by omega
  have hnl := isName_len hnm
  have hnl2 := isName_len hnm2
  have hCl := hC _ C2 hd2
  rw [hU]
  have bAB : ∀ w1, Below w.heap.size w w1 → ∀ o, Below w.heap.size w (w1.alloc o) := fun w1 b1 o => b1.alloc b1.size _
  clear hU hE hz hz2 hpx
  generalize (placeT T p).1 = d at *
  generalize (placeT T p).2.1 = nm at *
  generalize (placeT T q).1 = d2 at *
  generalize (placeT T q).2.1 = nm2 at *
  generalize p ++ [47] = p2 at *
  have hstep : ∀ w1, Below w.heap.size w w1 → Calls Tryd.prog 80 #[plc (some (G d)) nm] w1 fun e w' => (∃ v, e = .returned v) ∧ PTr w' r gN s (delT T d nm) (cntT T) B G V O ∧ Stp w w' O O ∧ Stp w1 w' O O := fun w1 b1 => by
    have h1 := h.below b1
    refine (unset_ok (h1.dirs d C hd) nm (by omega) (by simp only [hl, Option.map_some, Option.isSome_some])).mono ?_
    rintro e w2 ⟨hv, sm, g2⟩
    exact ⟨hv, h1.del hTok hd (by rw [hl]; rfl) g2 sm, (Stp.below b1).trans (.grown g2 (h1.ownG d C hd)), .grown g2 (h1.ownG d C hd)⟩
  have hstep2 : ∀ w1, PTr w1 r gN s (delT T d nm) (cntT T) B G V O → Calls Tryd.prog 81 #[plc (some (G d2)) nm2, .int .i64 n] w1 fun e w' => (∃ v, e = .returned v) ∧ PT w' r (addT (delT T d nm) d2 nm2 n) O ∧ Stp w1 w' O O := fun w1 h1 => by
    refine (set_ok (h1.dirs d2 C3 hd3) (by unfold maxLen; omega) nm2 (by omega) (by simp only [hl3, Option.map_none]) n).mono ?_
    rintro e w2 ⟨hv, sm, g2⟩
    exact ⟨hv, ⟨gN, s, B, G, V, (h1.add hd3 g2 sm).as rfl (fun k _ => hcc k)⟩, .grown g2 (h1.ownG d2 C3 hd3)⟩
  have hkp : ∀ {w1 w2 : World} {i : Nat} {c : Array Value}, Stp w1 w2 O O → w.heap.size ≤ i → w1.heap[i]? = some (.cells c 144) → w2.heap[i]? = some (.cells c 144) := fun {w1 w2 i c} st hi hc =>
    (st.wt.block i (Array.getElem?_eq_some_iff.1 hc).1 (fun ho => by have := h.lt i ho; omega)).trans hc
  generalize addT (delT T d nm) d2 nm2 n = TT at *
  generalize delT T d nm = TD at *
  clear hTok hT hC hm hcc hd3 hl3 hCl
  go_enter Tryd.func39, Tryd.ntmps39
  go_wp2_with (first
    | (go_at_call 77; refine hTk.mono ?_; rintro e w1 ⟨rfl, b1⟩; have b8 := bAB w1 b1 (.cells #[.map (some (G d)), tx nm] 144); have hFr1 := hFr _ b8)
    | (go_at_call 78; refine hFr1.mono ?_; rintro e w2 ⟨rfl, b2⟩
       have b9 : Below w.heap.size w w2 := b8.trans (b2.mono b8.size)
       have b10 := bAB w2 b9 (.cells #[.map (some (G d2)), tx nm2] 144)
       have q1 : (w2.alloc (.cells #[.map (some (G d2)), tx nm2] 144)).heap[w1.heap.size]? = some (.cells #[.map (some (G d)), tx nm] 144) := plc_more ((b2.block _ (by simp)).trans (World.alloc_heap_new _ _)) _
       have q2 : (w2.alloc (.cells #[.map (some (G d2)), tx nm2] 144)).heap[w2.heap.size]? = some (.cells #[.map (some (G d2)), tx nm2] 144) := World.alloc_heap_new _ _
       obtain ⟨x0, x1, _, _⟩ := plc_cells q1
       have hS := hstep _ b10)
    | (go_at_call 79; refine (hPx _).mono ?_; rintro e w' ⟨rfl, hw'⟩; subst w')
    | (go_at_call 80; refine hS.mono ?_; rintro e w3 ⟨⟨v, rfl⟩, h3, st3, st3'⟩; obtain ⟨y0, y1, _, _⟩ := plc_cells (hkp st3' b9.size q2); have hS2 := hstep2 w3 h3)
    | (go_at_call 81; refine hS2.mono ?_; rintro e w4 ⟨⟨v, rfl⟩, h4, st4⟩))
  go_ret
  exact ⟨rfl, h4, st3.trans st4⟩

theorem PT.rename_ok (h : PT w r T O) (hT : TrLv T) (p q : List UInt8) (hp : p.length < 100000) (hq : q.length < 100000) (m : Int) (hm : w.cell? ⟨1, 0, none⟩ = some (.int .i64 m)) (hC : ∀ k C, T k = some (.dir C) → C.length ≤ 1000) :
    Calls Tryd.prog 39 #[wp r, tx p, tx q] w fun e w' => e = .returned (uev (renameE T p q)) ∧ PT w' r (renameN T p q) O ∧ Stp w w' O O := by
  by_cases hE : renameE T p q = 0
  · rw [hE, uev_zero]
    exact h.rename_yes hT p q hp hq m hm hC hE
  · rw [uev_ne hE, show renameN T p q = T by unfold renameN; rw [if_pos hE]]
    refine (h.rename_no hT p q hp hq m hm hE).mono ?_
    rintro e w' ⟨rfl, b⟩
    exact ⟨rfl, h.below b, .below b⟩
end
end Go.Proofs.YtpibokijbidgdabDoor

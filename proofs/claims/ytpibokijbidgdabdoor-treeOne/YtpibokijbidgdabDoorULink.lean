/- Package tree: Link, by its Go text. -/
import Derived.Test.YtpibokijbidgdabDoorUUnlink2
namespace Go.Proofs.YtpibokijbidgdabDoor
open Go.RowKit Go.Maps

theorem isDir_file {T : Wd} {n : Int} (hs : (T n).isSome = true) (h : ¬ isDirT T n = true) : ∃ b x, T n = some (.file b x) := by
  unfold isDirT at h
  cases e : T n with
  | none => rw [e] at hs; cases hs
  | some nd => cases nd with
    | dir C => rw [e] at h; exact absurd rfl h
    | file b x => exact ⟨b, x, rfl⟩
theorem isDir_dir {T : Wd} {n : Int} (h : isDirT T n = true) : ∃ C, T n = some (.dir C) := by
  unfold isDirT at h
  cases e : T n with
  | none => rw [e] at h; cases h
  | some nd => cases nd with
    | dir C => exact ⟨C, rfl⟩
    | file b x => rw [e] at h; cases h

section
variable {w w' : World} {r gN s : Nat} {T : Wd} {Z : Int → Nat} {B G : Int → Nat} {V : Int → Value} {O : Nat → Prop}

set_option maxRecDepth 100000 in
set_option maxHeartbeats 4000000 in
theorem PT.link_no (h : PT w r T O) (hT : TrLv T) (p q : List UInt8) (hp : p.length < 100000) (hq : q.length < 100000) (m : Int) (hm : w.cell? ⟨1, 0, none⟩ = some (.int .i64 m)) (hE : linkE T p q ≠ 0) :
    Calls Tryd.prog 43 #[wp r, tx p, tx q] w fun e w' => e = .returned (uer (linkE T p q)) ∧ Below w.heap.size w w' := by
  obtain ⟨gN, s, B, G, V, h⟩ := h
  have hs1 := h.num.pos hT.toTrOk
  have hF := h.find_ok hT.toTrOk hs1 p hp m hm
  have hsome := findT_some hT.toTrOk (p := p)
  unfold linkE at hE ⊢
  by_cases hf : (findT T p).2 = 0
  · rw [if_neg (fun e => e hf)] at hE ⊢
    have hs := hsome hf
    have hkey := hT.key _ hs
    have hwf : (Lit.int .i64 (findT T p).1).wf = true := wf_few hkey.1 (by omega)
    rw [hf, uev_zero] at hF
    generalize (findT T p).1 = n at *
    by_cases hdr : isDirT T n = true
    · rw [if_pos hdr] at hE ⊢
      obtain ⟨C, hC⟩ := isDir_dir hdr
      have e6 : fileT T n = 6 := by unfold fileT; rw [hC]
      have hFi := fun w1 (b1 : Below w.heap.size w w1) => (h.below b1).file_bad n hwf (by rw [e6]; decide)
      rw [e6] at hFi
      clear hE hdr
      go_enter Tryd.func43, Tryd.ntmps43
      go_wp2_with (first
        | (go_at_call 44; refine hF.mono ?_; rintro e w1 ⟨rfl, b1⟩; have hFi1 := hFi w1 b1)
        | (go_at_call 83; refine hFi1.mono ?_; rintro e w' ⟨rfl, hw'⟩; subst w'))
      go_ret
      exact ⟨rfl, b1⟩
    · rw [if_neg hdr] at hE ⊢
      obtain ⟨b, x, hn⟩ := isDir_file hs hdr
      have hFi := fun w1 (b1 : Below w.heap.size w w1) => (h.below b1).file_ok n hwf hn
      by_cases hz : (placeT T q).2.2 = 0
      · rw [if_neg (fun e => e hz)] at hE ⊢
        cases hh : hasT T (placeT T q).1 (placeT T q).2.1 with
        | none => rw [hh] at hE; exact absurd (by simp) hE
        | some n' =>
          rw [show (if (some n').isSome = true then (9 : Int) else 0) = 9 from rfl]
          have hFr := fun w1 (b1 : Below w.heap.size w w1) => (h.below b1).free_twice hT.toTrOk hs1 q hq m (maxLen_kept hm b1) hz hh
          clear hE hdr hh hz
          go_enter Tryd.func43, Tryd.ntmps43
          go_wp2_with (first
            | (go_at_call 44; refine hF.mono ?_; rintro e w1 ⟨rfl, b1⟩; have hFi1 := hFi w1 b1; have hFr1 := hFr w1 b1)
            | (go_at_call 83; refine hFi1.mono ?_; rintro e w' ⟨rfl, hw'⟩; subst w')
            | (go_at_call 78; refine hFr1.mono ?_; rintro e w2 ⟨rfl, b2⟩))
          go_ret
          have b9 : Below w.heap.size w w2 := b1.trans (b2.mono b1.size)
          refine ⟨rfl, ?_⟩
          repeat first | exact b9 | refine Below.alloc ?_ (by first | omega | (have := b9.size; omega) | (simp <;> omega)) _
      · rw [if_pos hz] at hE ⊢
        have hFr := fun w1 (b1 : Below w.heap.size w w1) => (h.below b1).free_bad hT.toTrOk hs1 q hq m (maxLen_kept hm b1) hz
        generalize (placeT T q).2.2 = z at *
        clear hE hdr
        go_enter Tryd.func43, Tryd.ntmps43
        go_wp2_with (first
          | (go_at_call 44; refine hF.mono ?_; rintro e w1 ⟨rfl, b1⟩; have hFi1 := hFi w1 b1; have hFr1 := hFr w1 b1)
          | (go_at_call 83; refine hFi1.mono ?_; rintro e w' ⟨rfl, hw'⟩; subst w')
          | (go_at_call 78; refine hFr1.mono ?_; rintro e w2 ⟨rfl, b2⟩))
        go_ret
        have b9 : Below w.heap.size w w2 := b1.trans (b2.mono b1.size)
        refine ⟨rfl, ?_⟩
        repeat first | exact b9 | refine Below.alloc ?_ (by first | omega | (have := b9.size; omega) | (simp <;> omega)) _
  · rw [if_pos hf] at hE ⊢
    rw [uev_ne hf] at hF
    generalize (findT T p).2 = z at *
    generalize (findT T p).1 = n at *
    clear hsome
    go_enter Tryd.func43, Tryd.ntmps43
    go_wp2_with (go_at_call 44; refine hF.mono ?_; rintro e w1 ⟨rfl, b1⟩)
    go_ret
    exact ⟨rfl, b1⟩

theorem linkE_zero (hT : TrOk T) {p q : List UInt8} (h : linkE T p q = 0) : (findT T p).2 = 0 ∧ (∃ b x, T (findT T p).1 = some (.file b x)) ∧ (placeT T q).2.2 = 0 ∧ isName (placeT T q).2.1 = true ∧ ∃ C, T (placeT T q).1 = some (.dir C) ∧ C.lookup (placeT T q).2.1 = none := by
  unfold linkE at h
  by_cases hf : (findT T p).2 = 0
  · rw [if_neg (fun e => e hf)] at h
    by_cases hdr : isDirT T (findT T p).1 = true
    · rw [if_pos hdr] at h; omega
    · rw [if_neg hdr] at h
      by_cases hz : (placeT T q).2.2 = 0
      · rw [if_neg (fun e => e hz)] at h
        obtain ⟨⟨C, hd⟩, hnm⟩ := placeT_dir hT hz
        rw [hasT_eq hd] at h
        refine ⟨hf, isDir_file (findT_some hT hf) hdr, hz, hnm, C, hd, ?_⟩
        cases hl : C.lookup (placeT T q).2.1 with
        | none => rfl
        | some n => rw [hl] at h; simp at h
      · rw [if_pos hz] at h; exact absurd h hz
  · rw [if_pos hf] at h; exact absurd h hf

theorem TrLv.add (hT : TrLv T) {d n : Int} {nm : Nm} {C : List (Nm × Int)} (hd : T d = some (.dir C)) (hl : C.lookup nm = none) (hnm : isName nm = true) (hn : (T n).isSome = true) (h0 : n ≠ 0) : TrLv (addT T d nm n) :=
  { toTrOk := hT.toTrOk.add hd hl hnm hn
    nr := by rw [cnt_add hT.toTrOk hd, if_neg (Ne.symm h0)]; exact hT.nr
    lv := fun k nd e => by
      rw [cnt_add hT.toTrOk hd]
      rw [addT_eq hd] at e
      by_cases e1 : k = d
      · subst e1
        rw [setT_same] at e; cases e
        rcases hT.lv k _ hd with e2 | e2 | e2
        · exact .inl e2
        · exact .inr (.inl (by omega))
        · exact absurd rfl e2
      · rw [setT_other _ e1] at e
        rcases hT.lv k nd e with e2 | e2 | e2
        · exact .inl e2
        · exact .inr (.inl (by omega))
        · exact .inr (.inr e2) }
theorem TrLv.link (hT : TrLv T) (p q : List UInt8) : TrLv (linkN T p q) := by
  unfold linkN
  by_cases hE : linkE T p q = 0
  · rw [if_neg (fun e => e hE)]
    obtain ⟨_, ⟨b, x, hn⟩, _, hnm, C, hd, hl⟩ := linkE_zero hT.toTrOk hE
    exact hT.add hd hl hnm (by rw [hn]; rfl) (file_nz hT.toTrOk hn)
  · rw [if_pos hE]; exact hT

set_option maxRecDepth 100000 in
set_option maxHeartbeats 4000000 in
theorem PT.link_yes (h : PT w r T O) (hT : TrLv T) (p q : List UInt8) (hp : p.length < 100000) (hq : q.length < 100000) (m : Int) (hm : w.cell? ⟨1, 0, none⟩ = some (.int .i64 m)) (hC : ∀ k C, T k = some (.dir C) → C.length ≤ 1000) (hE : linkE T p q = 0) :
    Calls Tryd.prog 43 #[wp r, tx p, tx q] w fun e w' => e = .returned .nilIface ∧ PT w' r (linkN T p q) O ∧ Stp w w' O O := by
  obtain ⟨gN, s, B, G, V, h⟩ := h
  have hs1 := h.num.pos hT.toTrOk
  have hTok := hT.toTrOk
  have hF := h.find_ok hTok hs1 p hp m hm
  obtain ⟨hf, ⟨b, x, hn⟩, hz, hnm, C, hd, hl⟩ := linkE_zero hTok hE
  have hU : linkN T p q = addT T (placeT T q).1 (placeT T q).2.1 (findT T p).1 := by unfold linkN; rw [if_neg (fun e => e hE)]
  have hkey := hT.key _ (show (T (findT T p).1).isSome = true by rw [hn]; rfl)
  have hwf : (Lit.int .i64 (findT T p).1).wf = true := wf_few hkey.1 (by omega)
  have hFi := fun w1 (b1 : Below w.heap.size w w1) => (h.below b1).file_ok _ hwf hn
  have hFr := fun w1 (b1 : Below w.heap.size w w1) => (h.below b1).free_ok hTok hs1 q hq m (maxLen_kept hm b1) hz (by rw [hasT_eq hd]; exact hl)
  have hcb := cnt_bound hC (findT T p).1
  have hnl := isName_len hnm
  have hCl := hC _ C hd
  rw [hf, uev_zero] at hF
  rw [hU]
  clear hU hE hf hz
  generalize (placeT T q).1 = d at *
  generalize (placeT T q).2.1 = nm at *
  generalize (findT T p).1 = n at *
  have hca := cnt_add hTok (nm := nm) (n := n) hd
  have hnd : n ≠ d := by rintro rfl; rw [hd] at hn; cases hn
  have han : addT T d nm n n = some (.file b x) := by rw [addT_eq hd, setT_other _ hnd]; exact hn
  have hstep : ∀ w1, Below w.heap.size w w1 → Calls Tryd.prog 81 #[plc (some (G d)) nm, .int .i64 n] w1 fun e w' => (∃ v, e = .returned v) ∧ PTr w' r gN s (addT T d nm n) (cntT T) B G V O ∧ Stp w w' O O := fun w1 b1 => by
    have h1 := h.below b1
    refine (set_ok (h1.dirs d C hd) (by unfold maxLen; omega) nm (by omega) (by simp only [hl, Option.map_none]) n).mono ?_
    rintro e w2 ⟨hv, sm, g2⟩
    exact ⟨hv, h1.add hd g2 sm, (Stp.below b1).trans (.grown g2 (h1.ownG d C hd))⟩
  have hcn := hca n
  rw [if_pos rfl] at hcn
  have hfin : ∀ w2, PTr w2 r gN s (addT T d nm n) (cntT T) B G V O → PT (w2.setCell ⟨B n, 2, none⟩ (.int .i64 (cntT (addT T d nm n) n : Int))) r (addT T d nm n) O := fun w2 h2 =>
    ⟨gN, s, B, G, V, (h2.count han (cntT (addT T d nm n) n)).as rfl (fun k _ => by
      by_cases e : k = n
      · rw [if_pos e, e]
      · rw [if_neg e]; have := hca k; rw [if_neg e] at this; omega)⟩
  have hnc : ∀ w2, PTr w2 r gN s (addT T d nm n) (cntT T) B G V O → w2.cell? ⟨B n, 2, none⟩ = some (.int .i64 (cntT T n : Int)) ∧ w2.frozen? ⟨B n, 2, none⟩ = false ∧ O (B n) := fun w2 h2 => ⟨(h2.scell han).1, h2.nfrozen han 2, h2.ownB n (by rw [han]; rfl)⟩
  have hsub : (cntT T n : Int) + 1 = (cntT (addT T d nm n) n : Int) := by omega
  have hwr : wrap64 ((cntT T n : Int) + 1) = (cntT (addT T d nm n) n : Int) := by rw [hsub]; unfold wrap64; omega
  generalize (cntT T n : Int) = ct at *
  generalize (cntT (addT T d nm n) n : Int) = cd at *
  generalize addT T d nm n = TT at *
  clear hca hcb hcn hTok hT h hC hm hsub han hCl
  go_enter Tryd.func43, Tryd.ntmps43
  go_wp2_with (first
    | (go_at_call 44; refine hF.mono ?_; rintro e w1 ⟨rfl, b1⟩; have hFi1 := hFi w1 b1; have hFr1 := hFr w1 b1)
    | (go_at_call 83; refine hFi1.mono ?_; rintro e w' ⟨rfl, hw'⟩; subst w')
    | (go_at_call 78; refine hFr1.mono ?_; rintro e w2 ⟨rfl, b2⟩; have b9 : Below w.heap.size w (w2.alloc (.cells #[.map (some (G d)), tx nm] 144)) := (b1.trans (b2.mono b1.size)).alloc (Nat.le_trans b1.size b2.size) _; have hS := hstep _ b9)
    | (go_at_call 81; refine hS.mono ?_; rintro e w3 ⟨⟨v, rfl⟩, h3, st3⟩; obtain ⟨y2, yf, yo⟩ := hnc w3 h3))
  go_ret
  exact ⟨rfl, hfin _ h3, st3.trans (.cell _ yo)⟩

theorem PT.link_ok (h : PT w r T O) (hT : TrLv T) (p q : List UInt8) (hp : p.length < 100000) (hq : q.length < 100000) (m : Int) (hm : w.cell? ⟨1, 0, none⟩ = some (.int .i64 m)) (hC : ∀ k C, T k = some (.dir C) → C.length ≤ 1000) :
    Calls Tryd.prog 43 #[wp r, tx p, tx q] w fun e w' => e = .returned (uev (linkE T p q)) ∧ PT w' r (linkN T p q) O ∧ Stp w w' O O := by
  by_cases hE : linkE T p q = 0
  · rw [hE, uev_zero]
    exact h.link_yes hT p q hp hq m hm hC hE
  · rw [uev_ne hE, show linkN T p q = T by unfold linkN; rw [if_pos hE]]
    refine (h.link_no hT p q hp hq m hm hE).mono ?_
    rintro e w' ⟨rfl, b⟩
    exact ⟨rfl, h.below b, .below b⟩
end
end Go.Proofs.YtpibokijbidgdabDoor

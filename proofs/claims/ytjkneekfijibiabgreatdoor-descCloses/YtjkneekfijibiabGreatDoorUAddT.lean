/- Package tree: Unlink that takes a name away, by its Go text. -/
import Derived.Test.YtjkneekfijibiabGreatDoorUUnlink
namespace Go.Proofs.YtjkneekfijibiabGreatDoor
open Go.RowKit Go.Maps

theorem unlinkE_zero {T : Wd} (hT : TrOk T) {p : List UInt8} (h : unlinkE T p = 0) : (placeT T p).2.2 = 0 ∧ isName (placeT T p).2.1 = true ∧ ∃ C n, T (placeT T p).1 = some (.dir C) ∧ C.lookup (placeT T p).2.1 = some n ∧ manyT T n = 0 := by
  unfold unlinkE at h
  by_cases hz : (placeT T p).2.2 = 0
  · rw [if_neg (fun e => e hz)] at h
    obtain ⟨⟨C, hd⟩, hnm⟩ := placeT_dir hT hz
    rw [hasT_eq hd] at h
    cases hl : C.lookup (placeT T p).2.1 with
    | none => rw [hl] at h; simp at h
    | some n =>
      rw [hl] at h
      simp only at h
      refine ⟨hz, hnm, C, n, hd, hl, ?_⟩
      by_cases hm : manyT T n = 0
      · exact hm
      · rw [if_pos hm] at h; omega
  · rw [if_pos hz] at h; exact absurd h hz

section
variable {w w' : World} {r gN s : Nat} {T : Wd} {Z : Int → Nat} {B G : Int → Nat} {V : Int → Value} {O : Nat → Prop}

set_option maxRecDepth 100000 in
set_option maxHeartbeats 4000000 in
theorem PT.unlink_yes (h : PT w r T O) (hT : TrLv T) (p : List UInt8) (hp : p.length < 100000) (m : Int) (hm : w.cell? ⟨2, 0, none⟩ = some (.int .i64 m)) (hC : ∀ k C, T k = some (.dir C) → C.length ≤ 1000) (hE : unlinkE T p = 0) :
    Calls Tryz.prog 22 #[wp r, tx p] w fun e w' => e = .returned .nilIface ∧ PT w' r (unlinkN T p) O ∧ Stp w w' O O := by
  obtain ⟨gN, s, B, G, V, h⟩ := h
  have hs1 := h.num.pos hT.toTrOk
  obtain ⟨hz, hnm, C, n, hd, hl, hmz⟩ := unlinkE_zero hT.toTrOk hE
  have hU : unlinkN T p = sweepT (delT T (placeT T p).1 (placeT T p).2.1) := by unfold unlinkN; rw [if_neg (fun e => e hE)]
  have hTk := h.taken_some hT.toTrOk hs1 p hp m hm hz (n := n) (by rw [hasT_eq hd]; exact hl)
  obtain ⟨hnd, hn0, hc1, hdn, ht⟩ := unlink_turn hT hd hl hmz
  have hcd := cnt_del hT.toTrOk hd hl
  have hsome := hT.child _ C _ n hd hl
  obtain ⟨nd, hn⟩ : ∃ nd, T n = some nd := by
    cases e : T n with
    | none => rw [e] at hsome; cases hsome
    | some nd => exact ⟨nd, rfl⟩
  obtain ⟨hsw, _⟩ := ht nd hn
  rw [hU, hsw]
  have hkey := hT.key n hsome
  have hwf : (Lit.int .i64 n).wf = true := wf_few hkey.1 (by omega)
  have hcb := cnt_bound hC n
  have hcn := hcd n
  rw [if_pos rfl] at hcn
  have hnl := isName_len hnm
  clear hU hz hE hsw ht
  generalize (placeT T p).1 = d at *
  generalize (placeT T p).2.1 = nm at *
  have hTok := hT.toTrOk
  -- what lies behind the place's box
  have hstep : ∀ w1, Below w.heap.size w w1 → Calls Tryz.prog 71 #[plc (some (G d)) nm] w1 fun e w' => (∃ v, e = .returned v) ∧ PTr w' r gN s (delT T d nm) (cntT T) B G V O ∧ Stp w w' O O := fun w1 b1 => by
    have h1 := h.below b1
    refine (unset_ok (h1.dirs d C hd) nm (by omega) (by simp only [hl, Option.map_some, Option.isSome_some])).mono ?_
    rintro e w2 ⟨hv, sm, g2⟩
    exact ⟨hv, h1.del hTok hd (by rw [hl]; rfl) g2 sm, (Stp.below b1).trans (.grown g2 (h1.ownG d C hd))⟩
  have hZ : ∀ k, (delT T d nm k).isSome = true → (if k = n then cntT (delT T d nm) n else cntT T k) = cntT (delT T d nm) k := fun k _ => by
    by_cases e : k = n
    · rw [if_pos e, e]
    · rw [if_neg e]; have := hcd k; rw [if_neg e] at this; omega
  have hset : ∀ w2, PTr w2 r gN s (delT T d nm) (cntT T) B G V O → Calls Tryz.prog 72 #[wp r, .int .i64 n] (w2.setCell ⟨B n, 2, none⟩ (.int .i64 (cntT (delT T d nm) n : Int))) fun e w' => (∃ v, e = .returned v) ∧ PT w' r (if cntT (delT T d nm) n = 0 ∧ heldT nd = 0 then eraT (delT T d nm) n else delT T d nm) O ∧ Stp (w2.setCell ⟨B n, 2, none⟩ (.int .i64 (cntT (delT T d nm) n : Int))) w' O O := fun w2 h2 => by
    exact (h2.count (k := n) (nd := nd) (by rw [hdn]; exact hn) (cntT (delT T d nm) n)).settle_any n hwf (by rw [hdn]; exact hn) hc1 hZ
  have hnc : ∀ w2, PTr w2 r gN s (delT T d nm) (cntT T) B G V O → w2.cell? ⟨B n, 2, none⟩ = some (.int .i64 (cntT T n : Int)) ∧ w2.frozen? ⟨B n, 2, none⟩ = false ∧ O (B n) := fun w2 h2 => ⟨(h2.scell (k := n) (nd := nd) (by rw [hdn]; exact hn)).1, h2.nfrozen (k := n) (nd := nd) (by rw [hdn]; exact hn) 2, h2.ownB n (by rw [hdn, hn]; rfl)⟩
  have hsub : (cntT T n : Int) - 1 = (cntT (delT T d nm) n : Int) := by omega
  have hwr : wrap64 ((cntT T n : Int) - 1) = (cntT (delT T d nm) n : Int) := by rw [hsub]; unfold wrap64; omega
  generalize (if cntT (delT T d nm) n = 0 ∧ heldT nd = 0 then eraT (delT T d nm) n else delT T d nm) = TT at *
  have hlen : ∀ w1, Below w.heap.size w w1 → (∃ b x, nd = .file b x ∧ w1.cell? ⟨B n, 0, none⟩ = some (.map none)) ∨ ∃ D, nd = .dir D ∧ w1.cell? ⟨B n, 0, none⟩ = some (.map (some (G n))) ∧ SMap w1 (G n) 0 (fun i => (D.lookup i).map (.int .i64 ·)) := fun w1 b1 => by
    have h1 := h.below b1
    cases nd with
    | file b x => exact .inl ⟨b, x, rfl, (h1.fcell hn).1⟩
    | dir D =>
      have h0 : D.length = 0 := by unfold manyT at hmz; rw [hn] at hmz; exact hmz
      have := h1.dirs n D hn
      rw [h0] at this
      exact .inr ⟨D, rfl, (h1.dcell hn).1, this⟩
  have hlook : ∀ w1, Below w.heap.size w w1 → (Instr.lookup 108 (.map (some gN)) (.int .i64 n) false).run Tryz.prog w1 = .ok (wp (B n)) w1 ∧ w1.cell? ⟨r, 0, none⟩ = some (.map (some gN)) := fun w1 b1 => by
    have h1 := h.below b1
    have := h1.look n hwf
    rw [hn] at this
    simp only [Option.isSome_some, if_true] at this
    exact ⟨this, h1.c0⟩
  generalize (cntT T n : Int) = ct at *
  generalize (cntT (delT T d nm) n : Int) = cd at *
  clear hcd hcb hcn hc1 hZ hl hmz hsome hdn hTok hT h hC hm hsub
  go_enter Tryz.func22, Tryz.ntmps22
  go_upto_region 2 with (go_at_call 70; refine hTk.mono ?_; rintro e w1 ⟨rfl, b1⟩)
  have bA : Below w.heap.size w (w1.alloc (.cells #[.map (some (G d)), tx nm] 132)) := b1.alloc b1.size _
  obtain ⟨hlk, c0⟩ := hlook _ bA
  have hU := hstep _ bA
  rcases hlen _ bA with ⟨b, x, _, z0⟩ | ⟨D, _, z0, hSm⟩
  · have hl0 := len_nomap
    go_wp2_with
      (first
        | (go_at_call 71; refine hU.mono ?_; rintro e w2 ⟨⟨v, rfl⟩, h2, st2⟩; obtain ⟨y2, yf, yo⟩ := hnc w2 h2; have hS := hset w2 h2)
        | (go_at_call 72; refine hS.mono ?_; rintro e w3 ⟨⟨v3, rfl⟩, h3, st3⟩))
    go_ret
    exact ⟨rfl, h3, (st2.trans (.cell _ yo)).trans st3⟩
  · go_wp2_with
      (first
        | (go_at_call 71; refine hU.mono ?_; rintro e w2 ⟨⟨v, rfl⟩, h2, st2⟩; obtain ⟨y2, yf, yo⟩ := hnc w2 h2; have hS := hset w2 h2)
        | (go_at_call 72; refine hS.mono ?_; rintro e w3 ⟨⟨v3, rfl⟩, h3, st3⟩)
        | (refine wpList_slen rfl _ 111 rfl 3 Tryz.underlying111 (G n) _ _ rfl hSm ?_))
    go_ret
    exact ⟨rfl, h3, (st2.trans (.cell _ yo)).trans st3⟩

theorem PT.unlink_ok (h : PT w r T O) (hT : TrLv T) (p : List UInt8) (hp : p.length < 100000) (m : Int) (hm : w.cell? ⟨2, 0, none⟩ = some (.int .i64 m)) (hC : ∀ k C, T k = some (.dir C) → C.length ≤ 1000) :
    Calls Tryz.prog 22 #[wp r, tx p] w fun e w' => e = .returned (uev (unlinkE T p)) ∧ PT w' r (unlinkN T p) O ∧ Stp w w' O O := by
  by_cases hE : unlinkE T p = 0
  · rw [hE, uev_zero]
    exact h.unlink_yes hT p hp m hm hC hE
  · rw [uev_ne hE, show unlinkN T p = T by unfold unlinkN; rw [if_pos hE]]
    refine (h.unlink_no hT p hp m hm hE).mono ?_
    rintro e w' ⟨rfl, b⟩
    exact ⟨rfl, h.below b, .below b⟩
end
end Go.Proofs.YtjkneekfijibiabGreatDoor

namespace Go.Proofs.YtjkneekfijibiabGreatDoor
open Go.RowKit Go.Maps

theorem isDir_file {T : Wd} {n : Int} (hs : (T n).isSome = true) (h : ¬ isDirT T n = true) : ∃ b x, T n = some (.file b x) := by
  unfold isDirT at h
  cases e : T n with
  | none => rw [e] at hs; cases hs
  | some nd => cases nd with
    | dir C => rw [e] at h; exact absurd rfl h
    | file b x => exact ⟨b, x, rfl⟩
theorem isDir_dir {T : Wd} {n : Int} (h : isDirT T n = true) : ∃ C, T n = some (.dir C) := by
  unfold isDirT at h
  cases e : T n with
  | none => rw [e] at h; cases h
  | some nd => cases nd with
    | dir C => exact ⟨C, rfl⟩
    | file b x => rw [e] at h; cases h

section
variable {T : Wd}
theorem linkE_zero (hT : TrOk T) {p q : List UInt8} (h : linkE T p q = 0) : (findT T p).2 = 0 ∧ (∃ b x, T (findT T p).1 = some (.file b x)) ∧ (placeT T q).2.2 = 0 ∧ isName (placeT T q).2.1 = true ∧ ∃ C, T (placeT T q).1 = some (.dir C) ∧ C.lookup (placeT T q).2.1 = none := by
  unfold linkE at h
  by_cases hf : (findT T p).2 = 0
  · rw [if_neg (fun e => e hf)] at h
    by_cases hdr : isDirT T (findT T p).1 = true
    · rw [if_pos hdr] at h; omega
    · rw [if_neg hdr] at h
      by_cases hz : (placeT T q).2.2 = 0
      · rw [if_neg (fun e => e hz)] at h
        obtain ⟨⟨C, hd⟩, hnm⟩ := placeT_dir hT hz
        rw [hasT_eq hd] at h
        refine ⟨hf, isDir_file (findT_some hT hf) hdr, hz, hnm, C, hd, ?_⟩
        cases hl : C.lookup (placeT T q).2.1 with
        | none => rfl
        | some n => rw [hl] at h; simp at h
      · rw [if_pos hz] at h; exact absurd h hz
  · rw [if_pos hf] at h; exact absurd h hf

theorem TrLv.add (hT : TrLv T) {d n : Int} {nm : Nm} {C : List (Nm × Int)} (hd : T d = some (.dir C)) (hl : C.lookup nm = none) (hnm : isName nm = true) (hn : (T n).isSome = true) (h0 : n ≠ 0) : TrLv (addT T d nm n) :=
  { toTrOk := hT.toTrOk.add hd hl hnm hn
    nr := by rw [cnt_add hT.toTrOk hd, if_neg (Ne.symm h0)]; exact hT.nr
    lv := fun k nd e => by
      rw [cnt_add hT.toTrOk hd]
      rw [addT_eq hd] at e
      by_cases e1 : k = d
      · subst e1
        rw [setT_same] at e; cases e
        rcases hT.lv k _ hd with e2 | e2 | e2
        · exact .inl e2
        · exact .inr (.inl (by omega))
        · exact absurd rfl e2
      · rw [setT_other _ e1] at e
        rcases hT.lv k nd e with e2 | e2 | e2
        · exact .inl e2
        · exact .inr (.inl (by omega))
        · exact .inr (.inr e2) }
theorem TrLv.link (hT : TrLv T) (p q : List UInt8) : TrLv (linkN T p q) := by
  unfold linkN
  by_cases hE : linkE T p q = 0
  · rw [if_neg (fun e => e hE)]
    obtain ⟨_, ⟨b, x, hn⟩, _, hnm, C, hd, hl⟩ := linkE_zero hT.toTrOk hE
    exact hT.add hd hl hnm (by rw [hn]; rfl) (file_nz hT.toTrOk hn)
  · rw [if_pos hE]; exact hT

end
end Go.Proofs.YtjkneekfijibiabGreatDoor

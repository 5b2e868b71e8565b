/- Package tree: Drop and Unlink, by their Go text. -/
import Derived.Test.YtjkneekfijibiabGreatDoorUHold
namespace Go.Proofs.YtjkneekfijibiabGreatDoor
open Go.RowKit Go.Maps

section
variable {w w' : World} {r gN s : Nat} {T : Wd} {Z : Int → Nat} {B G : Int → Nat} {V : Int → Value} {O : Nat → Prop}

theorem PTr.settle_any (h : PTr w r gN s T Z B G V O) (n : Int) (hw : (Lit.int .i64 n).wf = true) {nd : Nd} (hn : T n = some nd) (h1 : ∀ k, cnt1 (T n) k = 0) (hZ : ∀ k, (T k).isSome = true → Z k = cntT T k) :
    Calls Tryz.prog 72 #[wp r, .int .i64 n] w fun e w' => (∃ v, e = .returned v) ∧ PT w' r (if cntT T n = 0 ∧ heldT nd = 0 then eraT T n else T) O ∧ Stp w w' O O := by
  have hzn := hZ n (by rw [hn]; rfl)
  by_cases hz : cntT T n = 0 ∧ heldT nd = 0
  · rw [if_pos hz]
    refine (h.settle_go n hw hn (hzn.trans hz.1) hz.2).mono ?_
    rintro e w' ⟨hv, h', hs⟩
    refine ⟨hv, ⟨gN, _, B, G, V, h'.as rfl (fun k hk => ?_)⟩, hs⟩
    have hk' : (T k).isSome = true := by
      by_cases e1 : k = n
      · subst e1; rw [eraT_same] at hk; cases hk
      · rw [eraT_other e1] at hk; exact hk
    rw [cnt_era h1, hZ k hk']
  · rw [if_neg hz]
    refine (h.settle_stay n hw hn (by rw [hzn]; exact hz)).mono ?_
    rintro e w' ⟨hv, rfl⟩
    exact ⟨hv, ⟨gN, s, B, G, V, h.as rfl (fun k hk => (hZ k hk).symm)⟩, .refl _ _⟩

theorem file_nz (hT : TrOk T) {n : Int} {b : List UInt8} {x : Nat} (hn : T n = some (.file b x)) : n ≠ 0 := by
  rintro rfl
  obtain ⟨C, e⟩ := hT.root
  rw [e] at hn; cases hn

/-- What Drop leaves. -/
theorem drop_turn (hT : TrLv T) {n : Int} {b : List UInt8} {x : Nat} (hn : T n = some (.file b (x + 1))) :
    holdE T n (-1) = 0 ∧ holdN T n (-1) = (if cntT (setT T n (.file b x)) n = 0 ∧ heldT (.file b x) = 0 then eraT (setT T n (.file b x)) n else setT T n (.file b x)) ∧ TrLv (holdN T n (-1)) := by
  have hsm := hT.small n b (x + 1) hn
  have hok : TrOk (setT T n (.file b x)) := hT.toTrOk.setF hn hsm.1 (by omega)
  have hl : ∀ k nd, k ≠ n → setT T n (.file b x) k = some nd → k = 0 ∨ cntT (setT T n (.file b x)) k ≠ 0 ∨ heldT nd ≠ 0 := fun k nd e h => by
    rw [cnt_setF hn]; rw [setT_other _ e] at h; exact hT.lv k nd h
  have h0 := file_nz hT.toTrOk hn
  have hN : holdN T n (-1) = sweepT (setT T n (.file b x)) := by
    unfold holdN; rw [hn]; simp only
    rw [if_neg (by omega), show (((x + 1 : Nat) : Int) + -1).toNat = x by omega]
  have hsw := sweep_one hok n hl _ (setT_same T n (.file b x)) h0
  refine ⟨by unfold holdE; rw [hn]; simp only; rw [if_neg (by omega)], by rw [hN, hsw], ?_⟩
  rw [hN, hsw]
  by_cases hz : cntT (setT T n (.file b x)) n = 0 ∧ heldT (.file b x) = 0
  · rw [if_pos hz]
    exact TrLv.era hok (by rw [cnt_setF hn]; exact hT.nr) hl (setT_same _ _ _) h0 hz.1 (fun k => by rw [setT_same]; rfl)
  · rw [if_neg hz]
    refine hT.setF hn hsm.1 (by omega) ?_
    by_cases e : cntT T n = 0
    · exact .inl (fun ex => hz ⟨by rw [cnt_setF hn]; exact e, ex⟩)
    · exact .inr e

set_option maxRecDepth 100000 in
set_option maxHeartbeats 2000000 in
theorem PT.drop_ok (h : PT w r T O) (hT : TrLv T) (n : Int) (hw : (Lit.int .i64 n).wf = true) :
    Calls Tryz.prog 59 #[wp r, .int .i64 n] w fun e w' => e = .returned (uev (holdE T n (-1))) ∧ PT w' r (holdN T n (-1)) O ∧ Stp w w' O O := by
  obtain ⟨gN, s, B, G, V, h⟩ := h
  by_cases hz : fileT T n = 0
  · obtain ⟨b, x, hn⟩ := fileT_zero hz
    have hF := h.file_ok n hw hn
    obtain ⟨_, _, _, n3⟩ := h.fcell hn
    have nf := h.nfrozen hn 3
    cases x with
    | zero =>
      have hE : holdE T n (-1) = 10 := by unfold holdE; rw [hn]; simp only; rw [if_pos (by omega)]
      have hN : holdN T n (-1) = T := by unfold holdN; rw [hn]; simp only; rw [if_pos (by omega)]
      rw [hE, hN]
      have hfin : PT w r T O := ⟨gN, s, B, G, V, h⟩
      clear hn hz hT hE hN
      go_enter Tryz.func59, Tryz.ntmps59
      go_wp2_with (go_at_call 64; refine hF.mono ?_; rintro e w' ⟨rfl, hw'⟩; subst w')
      go_ret
      exact ⟨rfl, hfin, .refl _ _⟩
    | succ x =>
      obtain ⟨hE, hN, _⟩ := drop_turn hT hn
      have hx := (hT.small n b (x + 1) hn).2
      have h1 := h.held hn x
      have hst : Stp w (w.setCell ⟨B n, 3, none⟩ (.int .i64 (x : Int))) O O := .cell _ (h.ownB n (by rw [hn]; rfl))
      have hS := h1.settle_any n hw (setT_same _ _ _) (fun k => by rw [setT_same]; rfl) (fun k _ => (cnt_setF hn k).symm)
      rw [← hN] at hS
      rw [hE, uev_zero]
      have hxx : wrap64 (((x + 1 : Nat) : Int) - 1) = (x : Int) := by unfold wrap64; omega
      have hx0 : (((x + 1 : Nat) : Int) == 0) = false := by simp; omega
      have hsub : ((x + 1 : Nat) : Int) - 1 = (x : Int) := by omega
      generalize ((x + 1 : Nat) : Int) = X at *
      clear h1 hT hN hn hz hE
      go_enter Tryz.func59, Tryz.ntmps59
      go_wp2_with (first
        | (go_at_call 64; refine hF.mono ?_; rintro e w' ⟨rfl, hw'⟩; subst w')
        | (go_at_call 72; refine hS.mono ?_; rintro e w2 ⟨⟨v, rfl⟩, h2, st2⟩))
      go_ret
      exact ⟨rfl, h2, hst.trans st2⟩
  · have hF := h.file_bad n hw hz
    have hE : holdE T n (-1) = fileT T n := by
      unfold holdE
      cases hn : T n with
      | none => rfl
      | some nd => cases nd with
        | dir C => rfl
        | file b x => exact absurd (by unfold fileT; rw [hn]) hz
    have hN : holdN T n (-1) = T := by
      unfold holdN
      cases hn : T n with
      | none => rfl
      | some nd => cases nd with
        | dir C => rfl
        | file b x => exact absurd (by unfold fileT; rw [hn]) hz
    rw [hE, hN, uev_ne hz]
    generalize fileT T n = z at *
    go_enter Tryz.func59, Tryz.ntmps59
    go_wp2_with (go_at_call 64; refine hF.mono ?_; rintro e w' ⟨rfl, hw'⟩; subst w')
    go_ret
    exact ⟨rfl, ⟨gN, s, B, G, V, h⟩, .refl _ _⟩

/-- What Unlink leaves. -/
theorem unlink_turn (hT : TrLv T) {d n : Int} {nm : Nm} {C : List (Nm × Int)} (hd : T d = some (.dir C)) (hl : C.lookup nm = some n) (hm : manyT T n = 0) :
    n ≠ d ∧ n ≠ 0 ∧ (∀ k, cnt1 (delT T d nm n) k = 0) ∧ delT T d nm n = T n ∧ ∀ nd, T n = some nd → (sweepT (delT T d nm) = (if cntT (delT T d nm) n = 0 ∧ heldT nd = 0 then eraT (delT T d nm) n else delT T d nm) ∧ TrLv (sweepT (delT T d nm))) := by
  have hnd : n ≠ d := by
    rintro rfl
    unfold manyT at hm; rw [hd] at hm
    have := List.length_pos_of_mem (lookup_mem hl)
    simp only at hm; omega
  have hc := cnt_del hT.toTrOk hd hl
  have hn0 : n ≠ 0 := by
    rintro rfl
    have := hc 0
    rw [if_pos rfl, hT.nr] at this; omega
  have hdn : delT T d nm n = T n := by rw [delT_eq hd, setT_other _ hnd]
  have hsome := hT.child d C nm n hd hl
  have h1 : ∀ k, cnt1 (delT T d nm n) k = 0 := fun k => by
    rw [hdn]
    cases e : T n with
    | none => rfl
    | some nd => cases nd with
      | file b x => rfl
      | dir D =>
        unfold manyT at hm; rw [e] at hm
        have : D = [] := List.length_eq_zero_iff.1 hm
        subst this; rfl
  refine ⟨hnd, hn0, h1, hdn, fun nd hn => ?_⟩
  have hok : TrOk (delT T d nm) := hT.toTrOk.del d nm
  have hlv : ∀ k nd, k ≠ n → delT T d nm k = some nd → k = 0 ∨ cntT (delT T d nm) k ≠ 0 ∨ heldT nd ≠ 0 := fun k nd' e h => by
    have hck := hc k
    rw [if_neg e] at hck
    rw [show cntT (delT T d nm) k = cntT T k by omega]
    by_cases e1 : k = d
    · subst e1
      rw [delT_eq hd, setT_same] at h; cases h
      rcases hT.lv k _ hd with e2 | e2 | e2
      · exact .inl e2
      · exact .inr (.inl e2)
      · exact absurd rfl e2
    · rw [delT_eq hd, setT_other _ e1] at h; exact hT.lv k nd' h
  have hnr : cntT (delT T d nm) 0 = 0 := by have := hc 0; rw [hT.nr] at this; omega
  have hsw := sweep_one hok n hlv nd (by rw [hdn]; exact hn) hn0
  refine ⟨hsw, ?_⟩
  rw [hsw]
  by_cases hz : cntT (delT T d nm) n = 0 ∧ heldT nd = 0
  · rw [if_pos hz]
    exact TrLv.era hok hnr hlv (by rw [hdn]; exact hn) hn0 hz.1 h1
  · rw [if_neg hz]
    exact { toTrOk := hok, nr := hnr, lv := fun k nd' e => by
              by_cases e1 : k = n
              · subst e1
                rw [hdn, hn] at e; cases e
                by_cases e2 : cntT (delT T d nm) k = 0
                · exact .inr (.inr (fun e3 => hz ⟨e2, e3⟩))
                · exact .inr (.inl e2)
              · exact hlv k nd' e1 e }
theorem TrLv.unlink (hT : TrLv T) (p : List UInt8) : TrLv (unlinkN T p) := by
  unfold unlinkN
  by_cases hE : unlinkE T p = 0
  · rw [if_neg (fun e => e hE)]
    unfold unlinkE at hE
    by_cases hz : (placeT T p).2.2 = 0
    · rw [if_neg (fun e => e hz)] at hE
      obtain ⟨⟨C, hd⟩, _⟩ := placeT_dir hT.toTrOk hz
      rw [hasT_eq hd] at hE
      cases hl : C.lookup (placeT T p).2.1 with
      | none => rw [hl] at hE; simp at hE
      | some n =>
        rw [hl] at hE
        simp only at hE
        by_cases hm : manyT T n = 0
        · obtain ⟨_, _, _, _, ht⟩ := unlink_turn hT hd hl hm
          have hs := hT.child _ C _ n hd hl
          cases hn : T n with
          | none => rw [hn] at hs; cases hs
          | some nd => exact (ht nd hn).2
        · rw [if_pos hm] at hE; omega
    · rw [if_pos hz] at hE; exact absurd hE hz
  · rw [if_pos hE]; exact hT
end
end Go.Proofs.YtjkneekfijibiabGreatDoor

namespace Go.Proofs.YtjkneekfijibiabGreatDoor
open Go.RowKit Go.Maps

section
variable {w w' : World} {r gN s : Nat} {T : Wd} {Z : Int → Nat} {B G : Int → Nat} {V : Int → Value} {O : Nat → Prop}

theorem cnt_bound (hC : ∀ k C, T k = some (.dir C) → C.length ≤ 1000) (k : Int) : cntT T k ≤ 64000 := by
  have h1 : ∀ i : Int, cnt1 (T i) k ≤ 1000 := fun i => by
    cases e : T i with
    | none => exact Nat.zero_le _
    | some nd => cases nd with
      | file b x => exact Nat.zero_le _
      | dir C => exact Nat.le_trans (List.length_filter_le _ _) (hC i C e)
  have h2 : ∀ m : Nat, cntTo T k m ≤ m * 1000 := fun m => by
    induction m with
    | zero => exact Nat.le_refl _
    | succ m ih => rw [cntTo]; have := h1 m; omega
  exact h2 64

set_option maxRecDepth 100000 in
set_option maxHeartbeats 4000000 in
theorem PT.unlink_no (h : PT w r T O) (hT : TrLv T) (p : List UInt8) (hp : p.length < 100000) (m : Int) (hm : w.cell? ⟨2, 0, none⟩ = some (.int .i64 m)) (hE : unlinkE T p ≠ 0) :
    Calls Tryz.prog 22 #[wp r, tx p] w fun e w' => e = .returned (uer (unlinkE T p)) ∧ Below w.heap.size w w' := by
  obtain ⟨gN, s, B, G, V, h⟩ := h
  have hs1 := h.num.pos hT.toTrOk
  unfold unlinkE at hE ⊢
  by_cases hz : (placeT T p).2.2 = 0
  · rw [if_neg (fun e => e hz)] at hE ⊢
    cases hh : hasT T (placeT T p).1 (placeT T p).2.1 with
    | none =>
      have hTk := h.taken_none hT.toTrOk hs1 p hp m hm hz hh
      clear hE hh
      go_enter Tryz.func22, Tryz.ntmps22
      go_wp2_with (go_at_call 70; refine hTk.mono ?_; rintro e w1 ⟨rfl, b1⟩)
      go_ret
      refine ⟨rfl, ?_⟩
      repeat first | exact b1 | refine Below.alloc ?_ (by first | omega | (have := b1.size; omega) | (simp <;> omega)) _
    | some n =>
      rw [hh] at hE
      simp only at hE ⊢
      have hmz : manyT T n ≠ 0 := fun e => hE (by rw [if_neg (fun e' => e' e)])
      rw [if_pos hmz]
      have hTk := h.taken_some hT.toTrOk hs1 p hp m hm hz hh
      obtain ⟨D, hD⟩ : ∃ D, T n = some (.dir D) := by
        cases e : T n with
        | none => exact absurd (by unfold manyT; rw [e]) hmz
        | some nd => cases nd with
          | file b x => exact absurd (by unfold manyT; rw [e]) hmz
          | dir D => exact ⟨D, rfl⟩
      have hml : D.length ≠ 0 := by unfold manyT at hmz; rw [hD] at hmz; exact hmz
      have hkey := hT.key n (by rw [hD]; rfl)
      have hwf : (Lit.int .i64 n).wf = true := wf_few hkey.1 (by omega)
      have hgt : (0 : Int) < (D.length : Int) := by omega
      clear hE hh hmz
      generalize (placeT T p).1 = d at *
      generalize (placeT T p).2.1 = nm at *
      go_enter Tryz.func22, Tryz.ntmps22
      go_wp2_with (first
        | (go_at_call 70; refine hTk.mono ?_; rintro e w1 ⟨rfl, b1⟩
           have h1 := (h.below b1).below ((Below.refl _ w1).alloc (Nat.le_refl _) (.cells #[.map (some (G d)), tx nm] 132))
           have c0 := h1.c0
           have hlk := h1.look n hwf
           rw [hD] at hlk
           simp only [Option.isSome_some, if_true] at hlk
           obtain ⟨n0, _⟩ := h1.dcell hD
           have hSm := h1.dirs n D hD)
        | (refine wpList_slen rfl _ 111 rfl 3 Tryz.underlying111 (G n) _ _ rfl hSm ?_))
      go_ret
      refine ⟨rfl, ?_⟩
      repeat first | exact b1 | refine Below.alloc ?_ (by first | omega | (have := b1.size; omega) | (simp <;> omega)) _
  · rw [if_pos hz] at hE ⊢
    have hTk := h.taken_bad hT.toTrOk hs1 p hp m hm hz
    generalize (placeT T p).2.2 = z at *
    go_enter Tryz.func22, Tryz.ntmps22
    go_wp2_with (go_at_call 70; refine hTk.mono ?_; rintro e w1 ⟨rfl, b1⟩)
    go_ret
    refine ⟨rfl, ?_⟩
    repeat first | exact b1 | refine Below.alloc ?_ (by first | omega | (have := b1.size; omega) | (simp <;> omega)) _

theorem len_nomap (ty : TypeId) (w : World) : (Builtin.len_ #[111] ty #[.map none]).run Tryz.prog w = .ok (.int .i64 0) w := by kernel_rfl
end
end Go.Proofs.YtjkneekfijibiabGreatDoor

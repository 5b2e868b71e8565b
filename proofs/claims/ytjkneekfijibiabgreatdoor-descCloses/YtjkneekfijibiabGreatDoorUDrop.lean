/- Package tree: Hold and Drop, by their Go text. -/
import Derived.Test.YtjkneekfijibiabGreatDoorQState
namespace Go.Proofs.YtjkneekfijibiabGreatDoor
open Go.RowKit Go.Maps

section
variable {w w' : World} {r gN s : Nat} {T : Wd} {Z : Int → Nat} {B G : Int → Nat} {V : Int → Value} {O : Nat → Prop}

/-- One block of its own was turned. -/
theorem Stp.grown {i : Nat} (hg : w.grownBy w' (some i)) (hi : O i) : Stp w w' O O := ⟨.grown hg hi, fun _ h => .inl h⟩
theorem Stp.cell {b o : Nat} (v : Value) (hi : O b) : Stp w (w.setCell ⟨b, o, none⟩ v) O O :=
  .grown (i := b) ⟨rfl, rfl, rfl, by simp [World.setCell], fun i _ hne => Below.heap_setCell _ _ _ _ (fun e => hne (by rw [e]))⟩ hi

theorem PTr.scell (h : PTr w r gN s T Z B G V O) {k : Int} {nd : Nd} (e : T k = some nd) : w.cell? ⟨B k, 2, none⟩ = some (.int .i64 (Z k : Int)) ∧ w.cell? ⟨B k, 3, none⟩ = some (.int .i64 (heldT nd : Int)) := by
  cases nd with
  | dir C => obtain ⟨_, _, h2, h3⟩ := h.dcell e; exact ⟨h2, h3⟩
  | file b x => obtain ⟨_, _, h2, h3⟩ := h.fcell e; exact ⟨h2, h3⟩

set_option maxRecDepth 100000 in
set_option maxHeartbeats 2000000 in
theorem PTr.settle_stay (h : PTr w r gN s T Z B G V O) (n : Int) (hw : (Lit.int .i64 n).wf = true) {nd : Nd} (hn : T n = some nd) (hz : ¬ (Z n = 0 ∧ heldT nd = 0)) :
    Calls Tryz.prog 72 #[wp r, .int .i64 n] w fun e w' => (∃ v, e = .returned v) ∧ w' = w := by
  have c0 := h.c0
  have hlk := h.look n hw
  rw [hn] at hlk
  simp only [Option.isSome_some, if_true] at hlk
  obtain ⟨s2, s3⟩ := h.scell hn
  by_cases e1 : Z n = 0
  · have e2 : heldT nd ≠ 0 := fun e => hz ⟨e1, e⟩
    have e3 : ((heldT nd : Int) == 0) = false := by simp; omega
    rw [e1] at s2
    generalize heldT nd = H at *
    clear hn hz
    go_enter Tryz.func72, Tryz.ntmps72
    go_wp2_with fail
    go_end0
    exact ⟨⟨_, rfl⟩, rfl⟩
  · have e3 : ((Z n : Int) == 0) = false := by simp; omega
    generalize heldT nd = H at *
    generalize Z n = z at *
    clear hn hz
    go_enter Tryz.func72, Tryz.ntmps72
    go_wp2_with fail
    go_end0
    exact ⟨⟨_, rfl⟩, rfl⟩

set_option maxRecDepth 100000 in
set_option maxHeartbeats 2000000 in
theorem PTr.settle_go (h : PTr w r gN s T Z B G V O) (n : Int) (hw : (Lit.int .i64 n).wf = true) {nd : Nd} (hn : T n = some nd) (hz : Z n = 0) (hh : heldT nd = 0) :
    Calls Tryz.prog 72 #[wp r, .int .i64 n] w fun e w' => (∃ v, e = .returned v) ∧ PTr w' r gN (s - 1) (eraT T n) Z B G V O ∧ Stp w w' O O := by
  have c0 := h.c0
  have hlk := h.look n hw
  rw [hn] at hlk
  simp only [Option.isSome_some, if_true] at hlk
  obtain ⟨s2, s3⟩ := h.scell hn
  rw [hz] at s2
  rw [hh] at s3
  have hmap := h.map
  have hM : ((T n).map (fun _ => wp (B n))).isSome = true := by rw [hn]; rfl
  go_enter Tryz.func72, Tryz.ntmps72
  go_wp2_with (refine wpList_kdel rfl _ _ 108 rfl 106 Tryz.underlying108 gN _ _ rfl hmap n rfl hw ?_; intro w1 pm g1; rw [if_pos hM] at pm)
  go_end0
  exact ⟨⟨_, rfl⟩, h.era n g1 pm, .grown g1 h.ownN⟩

theorem TrLv.setF (hT : TrLv T) {n : Int} {b b' : List UInt8} {x x' : Nat} (hn : T n = some (.file b x)) (hb : b'.length ≤ 256) (hx : x' ≤ 1000) (hx' : x' ≠ 0 ∨ cntT T n ≠ 0) : TrLv (setT T n (.file b' x')) :=
  { toTrOk := hT.toTrOk.setF hn hb hx
    nr := by rw [cnt_setF hn]; exact hT.nr
    lv := fun k nd e => by
      rw [cnt_setF hn]
      by_cases e1 : k = n
      · subst e1; rw [setT_same] at e; cases e
        rcases hx' with e2 | e2
        · exact .inr (.inr e2)
        · exact .inr (.inl e2)
      · rw [setT_other _ e1] at e; exact hT.lv k nd e }

set_option maxRecDepth 100000 in
set_option maxHeartbeats 2000000 in
theorem PT.hold_ok (h : PT w r T O) (hT : TrLv T) (n : Int) (hw : (Lit.int .i64 n).wf = true) (hhx : ∀ b x, T n = some (.file b x) → x + 1 ≤ 1000) :
    Calls Tryz.prog 57 #[wp r, .int .i64 n] w fun e w' => e = .returned (uev (holdE T n 1)) ∧ PT w' r (holdN T n 1) O ∧ Stp w w' O O := by
  obtain ⟨gN, s, B, G, V, h⟩ := h
  by_cases hz : fileT T n = 0
  · obtain ⟨b, x, hn⟩ := fileT_zero hz
    have hF := h.file_ok n hw hn
    have hx := hhx b x hn
    have hb := (hT.small n b x hn).1
    obtain ⟨_, _, _, n3⟩ := h.fcell hn
    have nf := h.nfrozen hn 3
    have hE : holdE T n 1 = 0 := by unfold holdE; rw [hn]; simp only; rw [if_neg (by omega)]
    have hT' := hT.setF (b' := b) (x' := x + 1) hn hb hx (.inl (by omega))
    have hN : holdN T n 1 = setT T n (.file b (x + 1)) := by
      unfold holdN; rw [hn]; simp only
      rw [if_neg (by omega), show ((x : Int) + 1).toNat = x + 1 by omega]
      exact sweep_none hT'.toTrOk hT'.lv
    have h1 := h.held hn (x + 1)
    have hcast : (((x + 1 : Nat) : Int)) = (x : Int) + 1 := by omega
    rw [hcast] at h1
    have hfin : PT (w.setCell ⟨B n, 3, none⟩ (.int .i64 ((x : Int) + 1))) r (holdN T n 1) O := by
      rw [hN]
      exact ⟨gN, s, B, G, V, h1.as rfl (fun k _ => cnt_setF hn k)⟩
    have hst : Stp w (w.setCell ⟨B n, 3, none⟩ (.int .i64 ((x : Int) + 1))) O O := .cell _ (h.ownB n (by rw [hn]; rfl))
    have hwx : wrap64 ((x : Int) + 1) = (x : Int) + 1 := by unfold wrap64; omega
    rw [hE, uev_zero]
    clear h1 hT' hN hn hz hT hE hcast
    go_enter Tryz.func57, Tryz.ntmps57
    go_wp2_with (go_at_call 64; refine hF.mono ?_; rintro e w' ⟨rfl, hw'⟩; subst w')
    go_ret
    exact ⟨rfl, hfin, hst⟩
  · have hF := h.file_bad n hw hz
    have hE : holdE T n 1 = fileT T n := by
      unfold holdE
      cases hn : T n with
      | none => rfl
      | some nd => cases nd with
        | dir C => rfl
        | file b x => exact absurd (by unfold fileT; rw [hn]) hz
    have hN : holdN T n 1 = T := by
      unfold holdN
      cases hn : T n with
      | none => rfl
      | some nd => cases nd with
        | dir C => rfl
        | file b x => exact absurd (by unfold fileT; rw [hn]) hz
    rw [hE, hN, uev_ne hz]
    generalize fileT T n = z at *
    go_enter Tryz.func57, Tryz.ntmps57
    go_wp2_with (go_at_call 64; refine hF.mono ?_; rintro e w' ⟨rfl, hw'⟩; subst w')
    go_ret
    exact ⟨rfl, ⟨gN, s, B, G, V, h⟩, .refl _ _⟩

theorem TrOk.era (hT : TrOk T) {n : Int} (h0 : n ≠ 0) (hc : cntT T n = 0) : TrOk (eraT T n) := by
  have hsub : ∀ k nd, eraT T n k = some nd → T k = some nd := fun k nd e => by
    by_cases e1 : k = n
    · subst e1; rw [eraT_same] at e; cases e
    · rw [eraT_other e1] at e; exact e
  have hl : ¬ Led T n := fun h => by
    rcases (led_cnt hT n).1 h with e | e
    · exact h0 e
    · exact e hc
  refine ⟨?_, fun k e => hT.key k ?_, fun k C e => hT.nodup k C (hsub k _ e), fun k C sx m e e2 => ?_, fun k C x e => hT.name k C x (hsub k _ e), fun k b x e => hT.small k b x (hsub k _ e)⟩
  · obtain ⟨C, e⟩ := hT.root
    exact ⟨C, by rw [eraT_other (Ne.symm h0)]; exact e⟩
  · cases h : eraT T n k with
    | none => rw [h] at e; cases e
    | some nd => rw [hsub k nd h]; rfl
  · have := hT.child k C sx m (hsub k _ e) e2
    rw [eraT_other (fun em => hl (.inr ⟨k, C, sx, hsub k _ e, by rw [← em]; exact e2⟩))]
    exact this
/-- A node that no name leads to and nobody holds goes. -/
theorem TrLv.era (hT : TrOk T) (hnr : cntT T 0 = 0) {n : Int} {nd : Nd} (hl : ∀ k nd, k ≠ n → T k = some nd → k = 0 ∨ cntT T k ≠ 0 ∨ heldT nd ≠ 0) (hn : T n = some nd) (h0 : n ≠ 0) (hc : cntT T n = 0) (h1 : ∀ k, cnt1 (T n) k = 0) : TrLv (eraT T n) :=
  { toTrOk := hT.era h0 hc
    nr := by rw [cnt_era h1]; exact hnr
    lv := fun k nd' e => by
      rw [cnt_era h1]
      by_cases e1 : k = n
      · subst e1; rw [eraT_same] at e; cases e
      · rw [eraT_other e1] at e; exact hl k nd' e1 e }
end
end Go.Proofs.YtjkneekfijibiabGreatDoor

namespace Go.Proofs.YtjkneekfijibiabGreatDoor
open Go.RowKit Go.Maps

section
variable {w w' : World} {r gN s : Nat} {T : Wd} {Z : Int → Nat} {B G : Int → Nat} {V : Int → Value} {O : Nat → Prop}

theorem PTr.settle_any (h : PTr w r gN s T Z B G V O) (n : Int) (hw : (Lit.int .i64 n).wf = true) {nd : Nd} (hn : T n = some nd) (h1 : ∀ k, cnt1 (T n) k = 0) (hZ : ∀ k, (T k).isSome = true → Z k = cntT T k) :
    Calls Tryz.prog 72 #[wp r, .int .i64 n] w fun e w' => (∃ v, e = .returned v) ∧ PT w' r (if cntT T n = 0 ∧ heldT nd = 0 then eraT T n else T) O ∧ Stp w w' O O := by
  have hzn := hZ n (by rw [hn]; rfl)
  by_cases hz : cntT T n = 0 ∧ heldT nd = 0
  · rw [if_pos hz]
    refine (h.settle_go n hw hn (hzn.trans hz.1) hz.2).mono ?_
    rintro e w' ⟨hv, h', hs⟩
    refine ⟨hv, ⟨gN, _, B, G, V, h'.as rfl (fun k hk => ?_)⟩, hs⟩
    have hk' : (T k).isSome = true := by
      by_cases e1 : k = n
      · subst e1; rw [eraT_same] at hk; cases hk
      · rw [eraT_other e1] at hk; exact hk
    rw [cnt_era h1, hZ k hk']
  · rw [if_neg hz]
    refine (h.settle_stay n hw hn (by rw [hzn]; exact hz)).mono ?_
    rintro e w' ⟨hv, rfl⟩
    exact ⟨hv, ⟨gN, s, B, G, V, h.as rfl (fun k hk => (hZ k hk).symm)⟩, .refl _ _⟩

theorem file_nz (hT : TrOk T) {n : Int} {b : List UInt8} {x : Nat} (hn : T n = some (.file b x)) : n ≠ 0 := by
  rintro rfl
  obtain ⟨C, e⟩ := hT.root
  rw [e] at hn; cases hn

/-- What Drop leaves. -/
theorem drop_turn (hT : TrLv T) {n : Int} {b : List UInt8} {x : Nat} (hn : T n = some (.file b (x + 1))) :
    holdE T n (-1) = 0 ∧ holdN T n (-1) = (if cntT (setT T n (.file b x)) n = 0 ∧ heldT (.file b x) = 0 then eraT (setT T n (.file b x)) n else setT T n (.file b x)) ∧ TrLv (holdN T n (-1)) := by
  have hsm := hT.small n b (x + 1) hn
  have hok : TrOk (setT T n (.file b x)) := hT.toTrOk.setF hn hsm.1 (by omega)
  have hl : ∀ k nd, k ≠ n → setT T n (.file b x) k = some nd → k = 0 ∨ cntT (setT T n (.file b x)) k ≠ 0 ∨ heldT nd ≠ 0 := fun k nd e h => by
    rw [cnt_setF hn]; rw [setT_other _ e] at h; exact hT.lv k nd h
  have h0 := file_nz hT.toTrOk hn
  have hN : holdN T n (-1) = sweepT (setT T n (.file b x)) := by
    unfold holdN; rw [hn]; simp only
    rw [if_neg (by omega), show (((x + 1 : Nat) : Int) + -1).toNat = x by omega]
  have hsw := sweep_one hok n hl _ (setT_same T n (.file b x)) h0
  refine ⟨by unfold holdE; rw [hn]; simp only; rw [if_neg (by omega)], by rw [hN, hsw], ?_⟩
  rw [hN, hsw]
  by_cases hz : cntT (setT T n (.file b x)) n = 0 ∧ heldT (.file b x) = 0
  · rw [if_pos hz]
    exact TrLv.era hok (by rw [cnt_setF hn]; exact hT.nr) hl (setT_same _ _ _) h0 hz.1 (fun k => by rw [setT_same]; rfl)
  · rw [if_neg hz]
    refine hT.setF hn hsm.1 (by omega) ?_
    by_cases e : cntT T n = 0
    · exact .inl (fun ex => hz ⟨by rw [cnt_setF hn]; exact e, ex⟩)
    · exact .inr e

set_option maxRecDepth 100000 in
set_option maxHeartbeats 2000000 in
theorem PT.drop_ok (h : PT w r T O) (hT : TrLv T) (n : Int) (hw : (Lit.int .i64 n).wf = true) :
    Calls Tryz.prog 59 #[wp r, .int .i64 n] w fun e w' => e = .returned (uev (holdE T n (-1))) ∧ PT w' r (holdN T n (-1)) O ∧ Stp w w' O O := by
  obtain ⟨gN, s, B, G, V, h⟩ := h
  by_cases hz : fileT T n = 0
  · obtain ⟨b, x, hn⟩ := fileT_zero hz
    have hF := h.file_ok n hw hn
    obtain ⟨_, _, _, n3⟩ := h.fcell hn
    have nf := h.nfrozen hn 3
    cases x with
    | zero =>
      have hE : holdE T n (-1) = 10 := by unfold holdE; rw [hn]; simp only; rw [if_pos (by omega)]
      have hN : holdN T n (-1) = T := by unfold holdN; rw [hn]; simp only; rw [if_pos (by omega)]
      rw [hE, hN]
      have hfin : PT w r T O := ⟨gN, s, B, G, V, h⟩
      clear hn hz hT hE hN
      go_enter Tryz.func59, Tryz.ntmps59
      go_wp2_with (go_at_call 64; refine hF.mono ?_; rintro e w' ⟨rfl, hw'⟩; subst w')
      go_ret
      exact ⟨rfl, hfin, .refl _ _⟩
    | succ x =>
      obtain ⟨hE, hN, _⟩ := drop_turn hT hn
      have hx := (hT.small n b (x + 1) hn).2
      have h1 := h.held hn x
      have hst : Stp w (w.setCell ⟨B n, 3, none⟩ (.int .i64 (x : Int))) O O := .cell _ (h.ownB n (by rw [hn]; rfl))
      have hS := h1.settle_any n hw (setT_same _ _ _) (fun k => by rw [setT_same]; rfl) (fun k _ => (cnt_setF hn k).symm)
      rw [← hN] at hS
      rw [hE, uev_zero]
      have hxx : wrap64 (((x + 1 : Nat) : Int) - 1) = (x : Int) := by unfold wrap64; omega
      have hx0 : (((x + 1 : Nat) : Int) == 0) = false := by simp; omega
      have hsub : ((x + 1 : Nat) : Int) - 1 = (x : Int) := by omega
      generalize ((x + 1 : Nat) : Int) = X at *
      clear h1 hT hN hn hz hE
      go_enter Tryz.func59, Tryz.ntmps59
      go_wp2_with (first
        | (go_at_call 64; refine hF.mono ?_; rintro e w' ⟨rfl, hw'⟩; subst w')
        | (go_at_call 72; refine hS.mono ?_; rintro e w2 ⟨⟨v, rfl⟩, h2, st2⟩))
      go_ret
      exact ⟨rfl, h2, hst.trans st2⟩
  · have hF := h.file_bad n hw hz
    have hE : holdE T n (-1) = fileT T n := by
      unfold holdE
      cases hn : T n with
      | none => rfl
      | some nd => cases nd with
        | dir C => rfl
        | file b x => exact absurd (by unfold fileT; rw [hn]) hz
    have hN : holdN T n (-1) = T := by
      unfold holdN
      cases hn : T n with
      | none => rfl
      | some nd => cases nd with
        | dir C => rfl
        | file b x => exact absurd (by unfold fileT; rw [hn]) hz
    rw [hE, hN, uev_ne hz]
    generalize fileT T n = z at *
    go_enter Tryz.func59, Tryz.ntmps59
    go_wp2_with (go_at_call 64; refine hF.mono ?_; rintro e w' ⟨rfl, hw'⟩; subst w')
    go_ret
    exact ⟨rfl, ⟨gN, s, B, G, V, h⟩, .refl _ _⟩

/-- What Unlink leaves. -/
theorem unlink_turn (hT : TrLv T) {d n : Int} {nm : Nm} {C : List (Nm × Int)} (hd : T d = some (.dir C)) (hl : C.lookup nm = some n) (hm : manyT T n = 0) :
    n ≠ d ∧ n ≠ 0 ∧ (∀ k, cnt1 (delT T d nm n) k = 0) ∧ delT T d nm n = T n ∧ ∀ nd, T n = some nd → (sweepT (delT T d nm) = (if cntT (delT T d nm) n = 0 ∧ heldT nd = 0 then eraT (delT T d nm) n else delT T d nm) ∧ TrLv (sweepT (delT T d nm))) := by
  have hnd : n ≠ d := by
    rintro rfl
    unfold manyT at hm; rw [hd] at hm
    have := List.length_pos_of_mem (lookup_mem hl)
    simp only at hm; omega
  have hc := cnt_del hT.toTrOk hd hl
  have hn0 : n ≠ 0 := by
    rintro rfl
    have := hc 0
    rw [if_pos rfl, hT.nr] at this; omega
  have hdn : delT T d nm n = T n := by rw [delT_eq hd, setT_other _ hnd]
  have hsome := hT.child d C nm n hd hl
  have h1 : ∀ k, cnt1 (delT T d nm n) k = 0 := fun k => by
    rw [hdn]
    cases e : T n with
    | none => rfl
    | some nd => cases nd with
      | file b x => rfl
      | dir D =>
        unfold manyT at hm; rw [e] at hm
        have : D = [] := List.length_eq_zero_iff.1 hm
        subst this; rfl
  refine ⟨hnd, hn0, h1, hdn, fun nd hn => ?_⟩
  have hok : TrOk (delT T d nm) := hT.toTrOk.del d nm
  have hlv : ∀ k nd, k ≠ n → delT T d nm k = some nd → k = 0 ∨ cntT (delT T d nm) k ≠ 0 ∨ heldT nd ≠ 0 := fun k nd' e h => by
    have hck := hc k
    rw [if_neg e] at hck
    rw [show cntT (delT T d nm) k = cntT T k by omega]
    by_cases e1 : k = d
    · subst e1
      rw [delT_eq hd, setT_same] at h; cases h
      rcases hT.lv k _ hd with e2 | e2 | e2
      · exact .inl e2
      · exact .inr (.inl e2)
      · exact absurd rfl e2
    · rw [delT_eq hd, setT_other _ e1] at h; exact hT.lv k nd' h
  have hnr : cntT (delT T d nm) 0 = 0 := by have := hc 0; rw [hT.nr] at this; omega
  have hsw := sweep_one hok n hlv nd (by rw [hdn]; exact hn) hn0
  refine ⟨hsw, ?_⟩
  rw [hsw]
  by_cases hz : cntT (delT T d nm) n = 0 ∧ heldT nd = 0
  · rw [if_pos hz]
    exact TrLv.era hok hnr hlv (by rw [hdn]; exact hn) hn0 hz.1 h1
  · rw [if_neg hz]
    exact { toTrOk := hok, nr := hnr, lv := fun k nd' e => by
              by_cases e1 : k = n
              · subst e1
                rw [hdn, hn] at e; cases e
                by_cases e2 : cntT (delT T d nm) k = 0
                · exact .inr (.inr (fun e3 => hz ⟨e2, e3⟩))
                · exact .inr (.inl e2)
              · exact hlv k nd' e1 e }
theorem TrLv.unlink (hT : TrLv T) (p : List UInt8) : TrLv (unlinkN T p) := by
  unfold unlinkN
  by_cases hE : unlinkE T p = 0
  · rw [if_neg (fun e => e hE)]
    unfold unlinkE at hE
    by_cases hz : (placeT T p).2.2 = 0
    · rw [if_neg (fun e => e hz)] at hE
      obtain ⟨⟨C, hd⟩, _⟩ := placeT_dir hT.toTrOk hz
      rw [hasT_eq hd] at hE
      cases hl : C.lookup (placeT T p).2.1 with
      | none => rw [hl] at hE; simp at hE
      | some n =>
        rw [hl] at hE
        simp only at hE
        by_cases hm : manyT T n = 0
        · obtain ⟨_, _, _, _, ht⟩ := unlink_turn hT hd hl hm
          have hs := hT.child _ C _ n hd hl
          cases hn : T n with
          | none => rw [hn] at hs; cases hs
          | some nd => exact (ht nd hn).2
        · rw [if_pos hm] at hE; omega
    · rw [if_pos hz] at hE; exact absurd hE hz
  · rw [if_pos hE]; exact hT
end
end Go.Proofs.YtjkneekfijibiabGreatDoor

/- Package desc: Exec, Clear, by their Go texts. -/
import Derived.Test.YtjkneekfijibiabGreatDoorQAdd
import Derived.Test.YtjkneekfijibiabGreatDoorDFree
import Derived.Test.YtjkneekfijibiabGreatDoorQNode
namespace Go.Proofs.YtjkneekfijibiabGreatDoor
open Go.RowKit Go.Maps

section
variable {w w' w2 w0 w1 : World} {f b n q k j : Nat} {D D' D1 D2 : DS} {g g' g1 : QG} {M M1 N N' N1 N2 : Ns} {d m : Int} {e : En} {T' : Wd} {Ts : List Ns}
theorem QGo.comp (h : QF w f D g n) (wt : Wt (fun i => (g.kap i).isSome = true ∨ i = b) w w1) (hx : Ext w D1 g g1) (h2 : QGo w1 w2 f D2 g1 b N2) (hs : ∀ d, (D.E d).isSome = true → (D2.E d).isSome = true → (D1.E d).isSome = true) : QGo w w2 f D2 g b N2 := by
  obtain ⟨⟨g2, n2, M2, a1, a2, a3⟩, wt2⟩ := h2
  refine ⟨⟨g2, n2, M2, a1, a2, ⟨fun i hi => (a3.kap i (Nat.lt_of_lt_of_le hi wt.size)).trans (hx.kap i hi), fun k d hk hd => a3.key k d (hx.key k d hk (hs d (h.key k d hk).1 hd)) hd, a3.r.trans hx.r⟩⟩, wt.weaken wt2 (fun i hi z => ?_)⟩
  rcases z with z | z
  · exact .inl (by rw [← hx.kap i hi]; exact z)
  · exact .inr z
/-- One number looked at. -/
theorem QGo.freed (h : QF w f D g n) (I : Inv D Ts k) (hk : k ≤ 900) (hj : j < Ts.length) (hN : Ts[j] = N) {all : Bool} {i : Nat} (hi : i < 8) (hiL : i < N.length) (h0 : 0 < N[i].1) (ha : all = true ∨ N[i].2 = true) (hG : QGo w w1 f (freeS all D N i).1 g b (freeS all D N i).2) :
    Calls Tryz.prog 101 #[wp f, wp b, .int .i64 (i : Int)] w1 fun x w' => x = .returned (.tuple #[]) ∧ QGo w w' f (freeS all D N (i + 1)).1 g b (freeS all D N (i + 1)).2 := by
  have hiF : i < (freeS all D N i).2.length := by rw [(freeS_tab all D N i).1]; exact hiL
  have hat := freeS_at (D := D) (all := all) hiL hiF
  have hD : N.getD i (0, false) = N[i] := by rw [List.getD_eq_getElem?_getD, List.getElem?_eq_getElem hiL]; rfl
  have e1 : freeS all D N (i + 1) = (closeK (freeS all D N i).1 N[i].1, (freeS all D N i).2.set i (0, false)) := by
    rw [freeS, hD, if_pos ⟨h0, ha⟩]
  have I1 := I.free hk hj all i (by omega)
  have I2 := I.free hk hj all (i + 1) (by omega)
  rw [hN] at I1 I2
  rw [e1] at I2 ⊢
  have hj1 : j < (Ts.set j (freeS all D N i).2).length := by rw [List.length_set]; exact hj
  have hj2 : j < (Ts.set j ((freeS all D N i).2.set i (0, false))).length := by rw [List.length_set]; exact hj
  have hg1 := getT_set hj (freeS all D N i).2 hj1
  have hg2 := getT_set hj ((freeS all D N i).2.set i (0, false)) hj2
  have hl := I2.live hj2
  rw [hg2] at hl
  have hcn := I1.cl hj1 (i := i) (by rw [hg1]; exact hiF)
  simp only [hg1] at hcn
  rw [hat] at hcn
  obtain ⟨e, cl⟩ := hcn h0
  obtain ⟨⟨g1, n1, M1, a1, a2, a3⟩, wt⟩ := hG
  have hf := a1.free_ok a2 hi hiF (by rw [hat]; exact h0) (e := e) (c := cntS N[i].1 (Ts.set j (freeS all D N i).2)) (by rw [hat]; exact cl) (by rw [hat]; exact hl)
  rw [hat] at hf
  refine hf.mono ?_
  rintro x w' ⟨rfl, hG2⟩
  exact ⟨rfl, QGo.comp h wt a3 hG2 (fun d _ hd => closeK_sub hd)⟩
theorem freeS_skip {all : Bool} {i : Nat} (hiL : i < N.length) (hc : ¬ (0 < N[i].1 ∧ (all = true ∨ N[i].2 = true))) : freeS all D N (i + 1) = freeS all D N i := by
  have hD : N.getD i (0, false) = N[i] := by rw [List.getD_eq_getElem?_getD, List.getElem?_eq_getElem hiL]; rfl
  rw [freeS, hD, if_neg hc]
/-- What a number of the table is, however far it was looked at. -/
theorem QGo.atIs {all : Bool} {i : Nat} (hi : i < 8) (hiL : i < N.length) (hG : QGo w w1 f (freeS all D N i).1 g b (freeS all D N i).2) : ∃ x : Int × Bool, Calls Tryz.prog 93 #[wp b, .int .i64 (i : Int)] w1 (fun e w' => e = .returned (.agg #[.int .i64 x.1, .bool x.2]) ∧ QGo w w' f (freeS all D N i).1 g b (freeS all D N i).2) ∧ (x.1 = 0 ↔ N[i].1 = 0) ∧ 0 ≤ N[i].1 ∧ x.2 = N[i].2 ∧ (x.1 = 0 → x.2 = false) := by
  have hiF : i < (freeS all D N i).2.length := by rw [(freeS_tab all D N i).1]; exact hiL
  have hat := freeS_at (D := D) (all := all) hiL hiF
  have hG' := hG
  obtain ⟨⟨g1, n1, M1, a1, a2, a3⟩, wt⟩ := hG
  have hM : i < M1.length := by rw [a2.tab.len]; exact hi
  have h1 := a2.tab.at_ok i
  rw [atM_in a2.tab.len hi] at h1
  have hp := (a2.pos a1 i hM hiF).2
  have hr := (a2.rel i hM hiF).1
  rw [hat] at hp hr
  have hnn := a2.nnAt i hiF
  rw [hat] at hnn
  refine ⟨M1[i], h1.mono ?_, hp, hnn, hr.symm, (a2.tab.nn hM).2.2⟩
  rintro e w' ⟨rfl, b1⟩
  exact ⟨rfl, ⟨⟨g1, n1, M1, a1.below b1, a2.below b1, a3⟩, wt.trans (Wt.below _ b1)⟩⟩
theorem QGo.behind (h : QGo w w1 f D' g b N') (hb : Below w1.heap.size w1 w2) : QGo w w2 f D' g b N' := by
  obtain ⟨⟨g1, n1, M1, a1, a2, a3⟩, wt⟩ := h
  exact ⟨⟨g1, n1, M1, a1.below hb, a2.below hb, a3⟩, wt.trans (Wt.below _ hb)⟩
set_option maxRecDepth 100000 in
set_option maxHeartbeats 4000000 in
theorem QF.clear_ok (h : QF w f D g n) (t : QTb w b g M N) (I : Inv D Ts k) (hk : k ≤ 900) (hj : j < Ts.length) (hN : Ts[j] = N) :
    Calls Tryz.prog 41 #[wp f, wp b] w fun y w' => y = .returned (.tuple #[]) ∧ QGo w w' f (freeS true D N 8).1 g b (freeS true D N 8).2 := by
  have hL : N.length = 8 := t.len
  have hG0 : QGo w w f (freeS true D N 0).1 g b (freeS true D N 0).2 := h.same t (Below.refl _ _)
  have HA : Aside (∀ i (hi : i < 8) (hiL : i < N.length) W, QGo w W f (freeS true D N i).1 g b (freeS true D N i).2 → ∃ x : Int × Bool, Calls Tryz.prog 93 #[wp b, .int .i64 (i : Int)] W (fun e w' => e = .returned (.agg #[.int .i64 x.1, .bool x.2]) ∧ QGo w w' f (freeS true D N i).1 g b (freeS true D N i).2) ∧ (x.1 = 0 ↔ N[i].1 = 0) ∧ 0 ≤ N[i].1 ∧ x.2 = N[i].2 ∧ (x.1 = 0 → x.2 = false)) := fun i hi hiL W hG => QGo.atIs hi hiL hG
  have HF : Aside (∀ i (hi : i < 8) (hiL : i < N.length) W, 0 < N[i].1 → (true = true ∨ N[i].2 = true) → QGo w W f (freeS true D N i).1 g b (freeS true D N i).2 → Calls Tryz.prog 101 #[wp f, wp b, .int .i64 (i : Int)] W fun x w' => x = .returned (.tuple #[]) ∧ QGo w w' f (freeS true D N (i + 1)).1 g b (freeS true D N (i + 1)).2) := fun i hi hiL W h0 ha hG => QGo.freed h I hk hj hN hi hiL h0 ha hG
  have HS : Aside (∀ i (hiL : i < N.length) W, ¬ (0 < N[i].1 ∧ (true = true ∨ N[i].2 = true)) → QGo w W f (freeS true D N i).1 g b (freeS true D N i).2 → QGo w W f (freeS true D N (i + 1)).1 g b (freeS true D N (i + 1)).2) := fun i hiL W h0 hG => by
    rw [freeS_skip hiL h0]; exact hG
  have HL : Aside (N.length = 8) := hL
  have hfm := num_mark
  clear h t I hk hN hj hL
  go_enter Tryz.func41, Tryz.ntmps41
  go_wp2_with fail
  go_loopg [4, 5] 8 (fun mm _ s5 wx => ∃ i : Nat, Aside (i + mm = 8) ∧ s5 = .int .i64 (i : Int) ∧ QGo w wx f (freeS true D N i).1 g b (freeS true D N i).2)
  case atStart => exact ⟨0, rfl, rfl, hG0⟩
  case round =>
    obtain ⟨i, HI, rfl, hG⟩ := hrel
    have hi9' : (i : Int) ≤ 8 := by have := HI.out; omega
    by_cases hlt : (i : Int) < 8
    · have HiL : Aside (i < N.length) := by show i < N.length; have := HL.out; omega
      have Hi8 : Aside (i < 8) := by show i < 8; omega
      obtain ⟨⟨X, Y⟩, hAt, hx0, hnn, hy, hfr⟩ := HA.out i Hi8.out HiL.out _ hG
      simp only at hAt hx0 hy hfr
      by_cases hX : X = 0
      · have HN0 : Aside (¬ (0 < (N[i]'HiL.out).1 ∧ (true = true ∨ (N[i]'HiL.out).2 = true))) := fun z => by have := hx0.1 hX; omega
        subst hX
        clear hG hx0 hnn hy hfr
        go_wp2_with (first
          | (go_at_call 93; refine hAt.mono ?_; rintro e w1 ⟨rfl, hG1⟩)
          | (go_at_call 94; refine (isFree_ok _ 0 _).mono ?_; rintro e w2 ⟨rfl, b2⟩))
        go_roundg (7 - i)
        case measure => have := HI.out; omega
        case rel => exact ⟨i + 1, (show i + 1 + (7 - i) = 8 by omega), by rfl, HS.out i HiL.out _ HN0.out (hG1.behind b2)⟩
      · have HN0 : Aside (0 < (N[i]'HiL.out).1 ∧ (true = true ∨ (N[i]'HiL.out).2 = true)) := ⟨by have : (N[i]'HiL.out).1 ≠ 0 := fun z => hX (hx0.2 z); omega, .inl rfl⟩
        have hX' : (X == 0) = false := by simpa using hX
        clear hG hx0 hnn hy hfr hX
        go_wp2_with (first
          | (go_at_call 93; refine hAt.mono ?_; rintro e w1 ⟨rfl, hG1⟩)
          | (go_at_call 94; refine (isFree_ok _ X _).mono ?_; rintro e w2 ⟨rfl, b2⟩; have hFr := HF.out i Hi8.out HiL.out _ HN0.out.1 HN0.out.2 (hG1.behind b2))
          | (go_at_call 101; refine hFr.mono ?_; rintro e w3 ⟨rfl, hG3⟩))
        go_roundg (7 - i)
        case measure => have := HI.out; omega
        case rel => exact ⟨i + 1, (show i + 1 + (7 - i) = 8 by omega), by rfl, hG3⟩
    · have H8 : Aside (i = 8) := by show i = 8; omega
      have hG8 : QGo w wr f (freeS true D N 8).1 g b (freeS true D N 8).2 := by rw [← H8.out]; exact hG
      clear hG
      go_wp2_with fail
      go_end0
      exact ⟨rfl, hG8⟩
set_option maxRecDepth 100000 in
set_option maxHeartbeats 4000000 in
theorem QF.exec_ok (h : QF w f D g n) (t : QTb w b g M N) (I : Inv D Ts k) (hk : k ≤ 900) (hj : j < Ts.length) (hN : Ts[j] = N) :
    Calls Tryz.prog 91 #[wp f, wp b] w fun y w' => y = .returned (.tuple #[]) ∧ QGo w w' f (freeS false D N 8).1 g b (freeS false D N 8).2 := by
  have hL : N.length = 8 := t.len
  have hG0 : QGo w w f (freeS false D N 0).1 g b (freeS false D N 0).2 := h.same t (Below.refl _ _)
  have HA : Aside (∀ i (hi : i < 8) (hiL : i < N.length) W, QGo w W f (freeS false D N i).1 g b (freeS false D N i).2 → ∃ x : Int × Bool, Calls Tryz.prog 93 #[wp b, .int .i64 (i : Int)] W (fun e w' => e = .returned (.agg #[.int .i64 x.1, .bool x.2]) ∧ QGo w w' f (freeS false D N i).1 g b (freeS false D N i).2) ∧ (x.1 = 0 ↔ N[i].1 = 0) ∧ 0 ≤ N[i].1 ∧ x.2 = N[i].2 ∧ (x.1 = 0 → x.2 = false)) := fun i hi hiL W hG => QGo.atIs hi hiL hG
  have HF : Aside (∀ i (hi : i < 8) (hiL : i < N.length) W, 0 < N[i].1 → (false = true ∨ N[i].2 = true) → QGo w W f (freeS false D N i).1 g b (freeS false D N i).2 → Calls Tryz.prog 101 #[wp f, wp b, .int .i64 (i : Int)] W fun x w' => x = .returned (.tuple #[]) ∧ QGo w w' f (freeS false D N (i + 1)).1 g b (freeS false D N (i + 1)).2) := fun i hi hiL W h0 ha hG => QGo.freed h I hk hj hN hi hiL h0 ha hG
  have HS : Aside (∀ i (hiL : i < N.length) W, ¬ (0 < N[i].1 ∧ (false = true ∨ N[i].2 = true)) → QGo w W f (freeS false D N i).1 g b (freeS false D N i).2 → QGo w W f (freeS false D N (i + 1)).1 g b (freeS false D N (i + 1)).2) := fun i hiL W h0 hG => by
    rw [freeS_skip hiL h0]; exact hG
  have HL : Aside (N.length = 8) := hL
  have hfm := num_mark
  clear h t I hk hN hj hL
  go_enter Tryz.func91, Tryz.ntmps91
  go_wp2_with fail
  go_loopg [4, 5] 8 (fun mm _ s5 wx => ∃ i : Nat, Aside (i + mm = 8) ∧ s5 = .int .i64 (i : Int) ∧ QGo w wx f (freeS false D N i).1 g b (freeS false D N i).2)
  case atStart => exact ⟨0, rfl, rfl, hG0⟩
  case round =>
    obtain ⟨i, HI, rfl, hG⟩ := hrel
    have hi9' : (i : Int) ≤ 8 := by have := HI.out; omega
    by_cases hlt : (i : Int) < 8
    · have HiL : Aside (i < N.length) := by show i < N.length; have := HL.out; omega
      have Hi8 : Aside (i < 8) := by show i < 8; omega
      obtain ⟨⟨X, Y⟩, hAt, hx0, hnn, hy, hfr⟩ := HA.out i Hi8.out HiL.out _ hG
      simp only at hAt hx0 hy hfr
      by_cases hX : Y = false
      · have HN0 : Aside (¬ (0 < (N[i]'HiL.out).1 ∧ (false = true ∨ (N[i]'HiL.out).2 = true))) := fun z => by rcases z.2 with z2 | z2; exact absurd z2 (by simp); rw [← hy, hX] at z2; cases z2
        subst hX
        clear hG hx0 hnn hy hfr
        go_wp2_with (go_at_call 93; refine hAt.mono ?_; rintro e w1 ⟨rfl, hG1⟩)
        go_roundg (7 - i)
        case measure => have := HI.out; omega
        case rel => exact ⟨i + 1, (show i + 1 + (7 - i) = 8 by omega), by rfl, HS.out i HiL.out _ HN0.out hG1⟩
      · have HN0 : Aside (0 < (N[i]'HiL.out).1 ∧ (false = true ∨ (N[i]'HiL.out).2 = true)) := ⟨by have : X ≠ 0 := fun z => hX (hfr z); have : (N[i]'HiL.out).1 ≠ 0 := fun z => this (hx0.2 z); omega, .inr (by rw [← hy]; simpa using hX)⟩
        have hX2 : Y = true := by simpa using hX
        have hfl := num_mark X Y
        rw [hX2] at hAt
        clear hG hx0 hnn hy hfr hX
        clear hX2 hfl
        go_wp2_with (first
          | (go_at_call 93; refine hAt.mono ?_; rintro e w1 ⟨rfl, hG1⟩; have hFr := HF.out i Hi8.out HiL.out _ HN0.out.1 HN0.out.2 hG1)
          | (go_at_call 101; refine hFr.mono ?_; rintro e w3 ⟨rfl, hG3⟩))
        go_roundg (7 - i)
        case measure => have := HI.out; omega
        case rel => exact ⟨i + 1, (show i + 1 + (7 - i) = 8 by omega), by rfl, hG3⟩
    · have H8 : Aside (i = 8) := by show i = 8; omega
      have hG8 : QGo w wr f (freeS false D N 8).1 g b (freeS false D N 8).2 := by rw [← H8.out]; exact hG
      clear hG
      go_wp2_with fail
      go_end0
      exact ⟨rfl, hG8⟩
end
end Go.Proofs.YtjkneekfijibiabGreatDoor

namespace Go.Proofs.YtjkneekfijibiabGreatDoor
open Go.RowKit Go.Maps

theorem fork_take {D : DS} {N : Ns} {i : Nat} (hi : i < N.length) : forkD D (N.take (i + 1)) = if 0 < N[i].1 then incR (forkD D (N.take i)) N[i].1 else forkD D (N.take i) := by
  unfold forkD
  rw [List.take_succ_eq_append_getElem hi, List.foldl_append]
  rfl
theorem fork_E (D : DS) : ∀ l : Ns, (forkD D l).E = D.E
  | [] => rfl
  | x :: l => by
    unfold forkD
    rw [List.foldl_cons]
    have h := fork_E (if 0 < x.1 then incR D x.1 else D) l
    unfold forkD at h
    rw [h]
    split <;> rfl
/-- The first numbers of a table; the others are free. -/
def upTo (N : Ns) (i : Nat) : Ns := N.take i ++ List.replicate (8 - i) (0, false)
theorem upTo_len {N : Ns} (h : N.length = 8) {i : Nat} (hi : i ≤ 8) : (upTo N i).length = 8 := by
  unfold upTo; rw [List.length_append, List.length_take, List.length_replicate]; omega
theorem upTo_all {N : Ns} (h : N.length = 8) : upTo N 8 = N := by
  unfold upTo; rw [List.take_of_length_le (by omega)]; simp
theorem upTo_set {N : Ns} (h : N.length = 8) {i : Nat} (hi : i < 8) : (upTo N i).set i (N[i]'(by omega)) = upTo N (i + 1) := by
  unfold upTo
  rw [List.set_append, List.length_take, if_neg (by omega), show 8 - i = (8 - (i + 1)) + 1 by omega, List.replicate_succ, List.take_succ_eq_append_getElem (by omega), show i - min i N.length = 0 by omega, List.append_assoc]
  rfl
theorem upTo_free {N : Ns} (h : N.length = 8) {i : Nat} (hi : i < 8) (h0 : N[i]'(by omega) = (0, false)) : upTo N (i + 1) = upTo N i := by
  rw [← upTo_set h hi, h0]
  unfold upTo
  rw [List.set_append, List.length_take, if_neg (by omega), show 8 - i = (8 - (i + 1)) + 1 by omega, List.replicate_succ, show i - min i N.length = 0 by omega]
  rfl
section
variable {w w' w2 w0 w1 : World} {f b n q k j : Nat} {D D' D1 D2 : DS} {g g' g1 : QG} {M M1 N N' N1 N2 : Ns} {d m : Int} {e : En} {T' : Wd} {Ts : List Ns}
/-- So many numbers forked. -/
structure FkS (w W : World) (f b n : Nat) (D : DS) (g : QG) (M N : Ns) (i : Nat) : Prop where
  q : QF W f (forkD D (N.take i)) g n
  t : QTb W b g M N
  u : QTb W w.heap.size g (upTo M i) (upTo N i)
  wt : Wt (fun i => (g.kap i).isSome = true) w W
  lt : b < w.heap.size
theorem FkS.below {W : World} {i : Nat} (h : FkS w W f b n D g M N i) (hb : Below W.heap.size W w') : FkS w w' f b n D g M N i := ⟨h.q.below hb, h.t.below hb, h.u.below hb, h.wt.trans (Wt.below _ hb), h.lt⟩
theorem kap_new (h : QF w f D g n) : g.kap w.heap.size = none := by
  cases e : g.kap w.heap.size with
  | none => rfl
  | some t => have := h.lt _ (by rw [e]; rfl); omega
/-- One more. -/
theorem FkS.give {W : World} {i : Nat} (h : FkS w W f b n D g M N i) (I : Inv D Ts k) (hj : j < Ts.length) (hN : Ts[j] = N) (hi : i < 8) (hiM : i < M.length) (hiL : i < N.length) (h0 : 0 < N[i].1) :
    Calls Tryz.prog 78 #[wp f, wp w.heap.size, .int .i64 (i : Int), .int .i64 M[i].1] W fun x w' => x = .returned (.tuple #[]) ∧ w'.cell? ⟨b, i * 2 + 1, none⟩ = some (.bool M[i].2) ∧ (∃ v, w'.cell? ⟨w.heap.size, i * 2 + 1, none⟩ = some v) ∧ w'.frozen? ⟨w.heap.size, i * 2 + 1, none⟩ = false ∧ ∀ V, V.heap = (w'.setCell ⟨w.heap.size, i * 2 + 1, none⟩ (.bool M[i].2)).heap → V.os = w'.os → V.tape = w'.tape → V.output = w'.output → FkS w V f b n D g M N (i + 1) := by
  have hk := h.t.keyOf hiM hiL h0
  have hMl := h.t.tab.len
  have hNl := h.t.len
  have hIc := InvC.fork (N.take i) I.core (fun x hx hx0 => by
    rw [← hN] at hx
    obtain ⟨y, hy, rfl⟩ := List.getElem_of_mem (List.mem_of_mem_take hx)
    exact cntS_pos hj hy)
  have hcp : 0 < cntS N[i].1 Ts := by
    have := cntS_pos (Ts := Ts) (j := j) (i := i) hj (by rw [hN]; exact hiL)
    simp only [hN] at this
    exact this
  have h64 := I.few64 N[i].1
  have hcl := cntN_le N[i].1 (N.take i)
  rw [List.length_take] at hcl
  obtain ⟨e, cl⟩ := hIc.cl h0 (by omega) (by omega)
  have hR := cl.cnt
  refine (h.q.give_go h.u hi hk h0 cl.ent hR (by omega) cl.c1).mono ?_
  rintro x w' ⟨rfl, a1, a2, hG⟩
  have hk0 := (h.q.key _ _ hk).2.1
  have hub : (upTo M i).length = 8 := upTo_len hMl (by omega)
  have hwt := hG.wt
  have hbw : b ≠ w.heap.size := fun e9 => by have := h.lt; omega
  have hbk : w'.heap[b]? = W.heap[b]? := hwt.block b h.t.tab.lt (by
    rintro (z | z)
    · rw [h.t.off] at z; cases z
    · exact hbw z)
  have t1 : QTb w' b g M N := h.t.keep hbk
  refine ⟨rfl, (t1.tab.at hi).2, ⟨_, (a2.tab.at hi).2⟩, a2.tab.free _, fun V hV ho ht hou => ?_⟩
  have hm0 : ((upTo M i).set i (M[i].1, false))[i]'(by rw [List.length_set, hub]; exact hi) = (M[i].1, false) := List.getElem_set_self _
  have tm := a2.tab.mark hi M[i].2 (by rw [hm0]; simp only; omega)
  rw [hm0] at tm
  simp only [List.set_set] at tm
  have hMi : (upTo M i).set i (M[i].1, M[i].2) = upTo M (i + 1) := upTo_set hMl hi
  have hNi : (upTo N i).set i (N[i].1, N[i].2) = upTo N (i + 1) := upTo_set hNl hi
  have tu := a2.set (i := i) (M[i].1, M[i].2) (N[i].1, N[i].2) (by rw [List.set_set]; exact tm) ⟨(h.t.rel i hiM hiL).1, .inr ⟨h0, hk⟩⟩
  rw [List.set_set, List.set_set, hMi, hNi] at tu
  have gg := tgrown_set w' w.heap.size (i * 2 + 1) (.bool M[i].2)
  have q1 := a1.offTab h.u.off gg
  have hsz : V.heap.size = (w'.setCell ⟨w.heap.size, i * 2 + 1, none⟩ (.bool M[i].2)).heap.size := by rw [hV]
  have hD : forkD D (N.take (i + 1)) = incR (forkD D (N.take i)) N[i].1 := by rw [fork_take hiL, if_pos h0]
  refine ⟨by rw [hD]; exact q1.keep (fun x _ => by rw [hV]) (by omega), t1.keep (by rw [hV]; exact gg.block b (t1.tab.lt) (fun z => hbw (Option.some.inj z))), tu.keep (by rw [hV]), ?_, h.lt⟩
  refine ⟨ho.trans (hwt.os.trans h.wt.os), ht.trans (hwt.tape.trans h.wt.tape), hou.trans (hwt.output.trans h.wt.output), ?_, fun x hx hA => ?_⟩
  · have := gg.size; have := hwt.size; have := h.wt.size; omega
  · have := h.wt.size
    have := hwt.size
    rw [hV, gg.block x (by omega) (fun z => by have := Option.some.inj z; omega), hwt.block x (by omega) (by
      rintro (z | z)
      · exact hA z
      · omega)]
    exact h.wt.block x hx hA
/-- A number that is free. -/
theorem FkS.skip {W : World} {i : Nat} (h : FkS w W f b n D g M N i) (hi : i < 8) (hiM : i < M.length) (hiL : i < N.length) (h0 : ¬ 0 < N[i].1) : FkS w W f b n D g M N (i + 1) := by
  have hr := h.t.rel i hiM hiL
  have hM0 : M[i].1 = 0 ∧ N[i].1 = 0 := by
    rcases hr.2 with z | z
    · exact z
    · exact absurd z.1 h0
  have hm := (h.t.tab.nn hiM).2.2 hM0.1
  have hMi : M[i] = (0, false) := Prod.ext hM0.1 hm
  have hNi : N[i] = (0, false) := Prod.ext hM0.2 (hr.1.trans hm)
  refine ⟨by rw [fork_take hiL, if_neg h0]; exact h.q, h.t, ?_, h.wt, h.lt⟩
  rw [upTo_free h.t.tab.len hi hMi, upTo_free h.t.len hi hNi]
  exact h.u
theorem FkS.first (h : QF w f D g n) (t : QTb w b g M N) : FkS w (w.alloc (.cells (nv (List.replicate 8 (0, false))).toArray 69)) f b n D g M N 0 := by
  have bA : Below w.heap.size w (w.alloc (.cells (nv (List.replicate 8 (0, false))).toArray 69)) := (Below.refl _ w).alloc (Nat.le_refl _) _
  have hn : (w.alloc (.cells (nv (List.replicate 8 (0, false))).toArray 69)).heap[w.heap.size]? = some (.cells (nv (List.replicate 8 (0, false))).toArray 69) := by
    show (w.heap.push _)[w.heap.size]? = _
    rw [Array.getElem?_push, if_pos rfl]
  refine ⟨h.below bA, t.below bA, ⟨⟨hn, rfl, fun x hx => ?_⟩, kap_new h, rfl, fun i h1 h2 => ?_⟩, Wt.below _ bA, t.tab.lt⟩
  · have := List.eq_of_mem_replicate (show x ∈ List.replicate 8 ((0 : Int), false) from hx)
    rw [this]; simp
  · have e1 : (upTo M 0)[i] = (0, false) := List.eq_of_mem_replicate (show (upTo M 0)[i] ∈ List.replicate 8 ((0 : Int), false) from List.getElem_mem h1)
    have e2 : (upTo N 0)[i] = (0, false) := List.eq_of_mem_replicate (show (upTo N 0)[i] ∈ List.replicate 8 ((0 : Int), false) from List.getElem_mem h2)
    exact ⟨(congrArg Prod.snd e2).trans (congrArg Prod.snd e1).symm, .inl ⟨congrArg Prod.fst e1, congrArg Prod.fst e2⟩⟩
set_option maxRecDepth 100000 in
set_option maxHeartbeats 4000000 in
theorem QF.fork_ok (h : QF w f D g n) (t : QTb w b g M N) (I : Inv D Ts k) (hj : j < Ts.length) (hN : Ts[j] = N) :
    Calls Tryz.prog 29 #[wp f, wp b] w fun y w' => y = .returned (wp w.heap.size) ∧ QF w' f (forkD D N) g n ∧ QTb w' b g M N ∧ QTb w' w.heap.size g M N ∧ Wt (fun i => (g.kap i).isSome = true) w w' := by
  have hF0 := FkS.first h t
  have HL : Aside (N.length = 8 ∧ M.length = 8) := ⟨t.len, t.tab.len⟩
  have HG : Aside (∀ (W : World) (i : Nat), FkS w W f b n D g M N i → i < 8 → ∀ (hiM : i < M.length) (hiL : i < N.length), 0 < N[i].1 → Calls Tryz.prog 78 #[wp f, wp w.heap.size, .int .i64 (i : Int), .int .i64 M[i].1] W fun x w' => x = .returned (.tuple #[]) ∧ w'.cell? ⟨b, i * 2 + 1, none⟩ = some (.bool M[i].2) ∧ (∃ v, w'.cell? ⟨w.heap.size, i * 2 + 1, none⟩ = some v) ∧ w'.frozen? ⟨w.heap.size, i * 2 + 1, none⟩ = false ∧ ∀ V, V.heap = (w'.setCell ⟨w.heap.size, i * 2 + 1, none⟩ (.bool M[i].2)).heap → V.os = w'.os → V.tape = w'.tape → V.output = w'.output → FkS w V f b n D g M N (i + 1)) := fun W i hF hi hiM hiL h0 => hF.give I hj hN hi hiM hiL h0
  have HFd : Aside (∀ (W : World) (i : Nat), FkS w W f b n D g M N i → i < 8 → ∀ (hiM : i < M.length) (hiL : i < N.length), 0 < N[i].1 → Calls Tryz.prog 77 #[wp f, wp b, .int .i64 (i : Int)] W fun x w' => ∃ q, x = .returned (.tuple #[wp q, .nilIface]) ∧ FkS w w' f b n D g M N i ∧ w'.cell? ⟨b, i * 2, none⟩ = some (.int .i64 M[i].1)) := fun W i hF hi hiM hiL h0 => by
    refine (hF.q.find_yes hF.t hi hiL h0).mono ?_
    rintro x w' ⟨rfl, b1⟩
    have hF1 := hF.below b1
    exact ⟨_, rfl, hF1, (hF1.t.tab.at hi).1⟩
  have HFn : Aside (∀ (W : World) (i : Nat), FkS w W f b n D g M N i → i < 8 → ∀ (hiL : i < N.length), N[i].1 ≤ 0 → Calls Tryz.prog 77 #[wp f, wp b, .int .i64 (i : Int)] W fun x w' => x = .returned (.tuple #[.pointer none, uer 7]) ∧ FkS w w' f b n D g M N (i + 1)) := fun W i hF hi hiL h0 => by
    refine (hF.q.find_no hF.t i (by unfold hasN; rw [getD_in hiL]; simp; omega)).mono ?_
    rintro x w' ⟨rfl, b1⟩
    exact ⟨rfl, (hF.below b1).skip hi (by have := hF.t.tab.len; omega) hiL (by omega)⟩
  clear h t I hj hN
  go_enter Tryz.func29, Tryz.ntmps29
  go_wp2_with fail
  go_loopg [6, 7, 8, 11] 8 (fun mm _ _ _ s11 wx => ∃ i : Nat, Aside (i + mm = 8) ∧ s11 = .int .i64 (i : Int) ∧ FkS w wx f b n D g M N i)
  case atStart => exact ⟨0, rfl, rfl, hF0⟩
  case round =>
    obtain ⟨i, HI, rfl, hF⟩ := hrel
    have hi9' : (i : Int) ≤ 8 := by have := HI.out; omega
    by_cases hlt : (i : Int) < 8
    · have HiL : Aside (i < N.length) := by show i < N.length; have := HL.out; omega
      have HiM : Aside (i < M.length) := by show i < M.length; have := HL.out; omega
      have Hi8 : Aside (i < 8) := by show i < 8; omega
      by_cases h0 : 0 < (N[i]'HiL.out).1
      · have hFi := HFd.out _ i hF Hi8.out HiM.out HiL.out h0
        have H0 : Aside (0 < (N[i]'HiL.out).1) := h0
        have HGv : Aside (∀ W, FkS w W f b n D g M N i → _) := fun W hW => HG.out W i hW Hi8.out HiM.out HiL.out H0.out
        generalize (M[i]'HiM.out).1 = X at *
        generalize (M[i]'HiM.out).2 = Y at *
        clear h0 hF H0
        go_upto_region 7 with (go_at_call 77; refine hFi.mono ?_; rintro x w2 ⟨q, rfl, hF2, c2⟩)
        have hGv := HGv.out _ hF2
        clear hFi hF2
        go_upto_region 8 with (go_at_call 78; refine hGv.mono ?_; rintro x w3 ⟨rfl, c3, ⟨v, c4⟩, z4, hN⟩)
        have HN : Aside _ := hN
        clear hN hGv c2
        go_region
        all_goals
          go_wp2_with fail
          go_roundg (7 - i)
          case measure => have := HI.out; omega
          case rel => exact ⟨i + 1, (show i + 1 + (7 - i) = 8 by omega), by rfl, HN.out _ rfl rfl rfl rfl⟩
      · have hFi := HFn.out _ i hF Hi8.out HiL.out (by omega)
        clear h0 hF
        go_wp2_with (go_at_call 77; refine hFi.mono ?_; rintro x w2 ⟨rfl, hF2⟩)
        go_roundg (7 - i)
        case measure => have := HI.out; omega
        case rel => exact ⟨i + 1, (show i + 1 + (7 - i) = 8 by omega), by rfl, hF2⟩
    · have h8 : i = 8 := by omega
      subst h8
      have hq := hF.q
      have hu := hF.u
      have ht := hF.t
      have hw := hF.wt
      rw [List.take_of_length_le (by have := HL.out; omega)] at hq
      rw [upTo_all HL.out.1, upTo_all HL.out.2] at hu
      clear hF
      go_wp2_with fail
      go_ret
      exact ⟨rfl, hq, ht, hu, hw⟩
end
end Go.Proofs.YtjkneekfijibiabGreatDoor

namespace Go.Proofs.YtjkneekfijibiabGreatDoor
open Go.RowKit Go.Maps

section
variable {w w' w2 w0 w1 : World} {r : Nat} {T : Wd} {O : Nat → Prop}
theorem tre_ne (b : Nat) (w : World) : (binOp BinOp.eql 23 (wp b) (.pointer none)).run Tryz.prog w = .ok (.bool false) w := by kernel_rfl
theorem tre_nil (w : World) : (binOp BinOp.eql 23 (.pointer none) (.pointer none)).run Tryz.prog w = .ok (.bool true) w := by kernel_rfl
theorem QNew.nil (w : World) : Calls Tryz.prog 27 #[.pointer none] w fun y w' => y = .returned (.tuple #[.pointer none, uer 7]) ∧ w' = w := by
  have h9 := tre_nil
  go_enter Tryz.func27, Tryz.ntmps27
  go_wp2_with fail
  go_ret2
  exact ⟨rfl, rfl⟩
theorem QF.made (h : PT w r T O) : ∃ g, QF ((w.alloc (.map #[] 0)).alloc (.cells #[wp r, .map (some w.heap.size)] 144)) (w.heap.size + 1) (noneD T) g 0 ∧ (∀ i, i < w.heap.size → ((g.kap i).isSome = true ↔ O i)) ∧ g.r = r := by
  classical
  have b1 : Below w.heap.size w (w.alloc (.map #[] 0)) := (Below.refl _ w).alloc (Nat.le_refl _) _
  have hs1 : (w.alloc (.map #[] 0)).heap.size = w.heap.size + 1 := by simp
  have b2 : Below w.heap.size w ((w.alloc (.map #[] 0)).alloc (.cells #[wp r, .map (some w.heap.size)] 144)) := b1.alloc (by omega) _
  have hs2 : ((w.alloc (.map #[] 0)).alloc (.cells #[wp r, .map (some w.heap.size)] 144)).heap.size = w.heap.size + 1 + 1 := by
    show ((w.alloc (.map #[] 0)).heap.push _).size = _
    rw [Array.size_push, hs1]
  have hO : ∀ i, O i → i < w.heap.size := fun i hi => h.lt i hi
  have hk : ∀ i, O i → (if i = w.heap.size + 1 then some Tag.head else if i = w.heap.size then some Tag.mp else if O i then some Tag.tree else none) = some Tag.tree := fun i hi => by
    have := hO i hi
    rw [if_neg (by omega), if_neg (by omega), if_pos hi]
  refine ⟨⟨r, w.heap.size, fun _ => none, fun _ => 0, fun _ => 0, fun i => if i = w.heap.size + 1 then some .head else if i = w.heap.size then some .mp else if O i then some .tree else none⟩, ⟨?_, ⟨O, h.below b2, hk⟩, ?_, fun d e he => (by cases he), fun k d he => (by cases he), fun d he => (by cases he), fun k k' d he => (by cases he), fun p x he => (by cases he), if_pos rfl, ?_, fun i hi => ?_⟩, fun i hi => ?_, rfl⟩
  · show ((w.alloc (.map #[] 0)).heap.push _)[w.heap.size + 1]? = _
    rw [Array.getElem?_push, if_pos hs1.symm]
  · exact (PMap.made w).keep (Below.heap_alloc _ _ _ (by rw [hs1]; omega))
  · show (if w.heap.size = w.heap.size + 1 then some Tag.head else if w.heap.size = w.heap.size then some Tag.mp else _) = some Tag.mp
    rw [if_neg (by omega), if_pos rfl]
  · have hi' : (if i = w.heap.size + 1 then some Tag.head else if i = w.heap.size then some Tag.mp else if O i then some Tag.tree else none).isSome = true := hi
    rw [hs2]
    by_cases e1 : i = w.heap.size + 1
    · omega
    · by_cases e2 : i = w.heap.size
      · omega
      · rw [if_neg e1, if_neg e2] at hi'
        by_cases e3 : O i
        · have := hO i e3; omega
        · rw [if_neg e3] at hi'; cases hi'
  · show ((if i = w.heap.size + 1 then some Tag.head else if i = w.heap.size then some Tag.mp else if O i then some Tag.tree else none).isSome = true ↔ O i)
    rw [if_neg (by omega), if_neg (by omega)]
    by_cases e3 : O i
    · simp [e3]
    · simp [e3]
theorem QNew.ok (h : PT w r T O) : Calls Tryz.prog 27 #[wp r] w fun y w' => ∃ f g, y = .returned (.tuple #[wp f, .nilIface]) ∧ QF w' f (noneD T) g 0 ∧ (∀ i, i < w.heap.size → ((g.kap i).isSome = true ↔ O i)) ∧ g.r = r ∧ Below w.heap.size w w' := by
  have h9 := tre_ne r
  have hmm := @run_makeMap Tryz.prog
  have hM := QF.made h
  have b1 : Below w.heap.size w (w.alloc (.map #[] 0)) := (Below.refl _ w).alloc (Nat.le_refl _) _
  have hs1 : (w.alloc (.map #[] 0)).heap.size = w.heap.size + 1 := by simp
  have b2 : Below w.heap.size w ((w.alloc (.map #[] 0)).alloc (.cells #[wp r, .map (some w.heap.size)] 144)) := b1.alloc (by omega) _
  have HM : Aside (∃ g, QF ((w.alloc (.map #[] 0)).alloc (.cells #[wp r, .map (some w.heap.size)] 144)) (w.heap.size + 1) (noneD T) g 0 ∧ (∀ i, i < w.heap.size → ((g.kap i).isSome = true ↔ O i)) ∧ g.r = r) := hM
  clear hM hs1 b1 h
  go_enter Tryz.func27, Tryz.ntmps27
  go_wp2_with fail
  go_ret2
  obtain ⟨g, a1, a2, a3⟩ := HM.out
  exact ⟨w.heap.size + 1, g, rfl, a1, a2, a3, b2⟩
end
end Go.Proofs.YtjkneekfijibiabGreatDoor

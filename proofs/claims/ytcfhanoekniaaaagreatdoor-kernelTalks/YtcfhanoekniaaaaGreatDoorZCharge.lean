/- Charge of package acct at a holding's ledger; holding.charge, by their Go text. -/
import Derived.Test.YtcfhanoekniaaaaGreatDoorZLed
import Derived.Test.YtcfhanoekniaaaaGreatDoorTell
import Derived.Test.YtcfhanoekniaaaaGreatDoorQTab
namespace Go.Proofs.YtcfhanoekniaaaaGreatDoor
open Go.RowKit

section
variable {w w' : World} {b s t : Nat} {U M : Nat → Int} {a : Int}
set_option maxRecDepth 100000 in
set_option maxHeartbeats 2000000 in
theorem Hd.charge_go (h : Hd w b s t U M a) (hU : Fit U) (hM : Fit M) (ad : Option Addr) (len cap : Nat) (q : Nat → Want) (hq : Asks w ad len q) (hpos : 0 < len) (hl : len ≤ 1000) :
    Calls Tryz.prog 234 #[lq b, .slice ad len cap] w fun e w' =>
      (Fine U M q len ∧ e = .returned .nilIface ∧ Hd w' b s t (upon U q len) M a ∧ w.grownBy w' (some b)) ∨
      ∃ p, p < len ∧ Fine U M q p ∧ fault U M q p ≠ 0 ∧ ∃ x, e = .returned (atv x) ∧ w.heap.size ≤ x ∧ AtB w' x (fault U M q p) p ∧ Below w.heap.size w w' := by
  have hne : ((len : Int) == 0) = false := by simp; omega
  have hl' : (len : Int) ≤ 1000 := by omega
  have u0 : w.cell? ⟨b, 2, none⟩ = some (.int .i64 (U 0)) := h.has 0 (by omega)
  have u1 : w.cell? ⟨b, 3, none⟩ = some (.int .i64 (U 1)) := h.has 1 (by omega)
  have u2 : w.cell? ⟨b, 4, none⟩ = some (.int .i64 (U 2)) := h.has 2 (by omega)
  have m0 : w.cell? ⟨b, 5, none⟩ = some (.int .i64 (M 0)) := h.may 0 (by omega)
  have m1 : w.cell? ⟨b, 6, none⟩ = some (.int .i64 (M 1)) := h.may 1 (by omega)
  have m2 : w.cell? ⟨b, 7, none⟩ = some (.int .i64 (M 2)) := h.may 2 (by omega)
  go_enter Tryz.func234, Tryz.ntmps234
  go_wp2_with fail
  have L0 : Ldg (w.alloc (.cells #[.int .i64 (U 0), .int .i64 (U 1), .int .i64 (U 2), .int .i64 (M 0), .int .i64 (M 1), .int .i64 (M 2)] 113)) w.heap.size U M := led_new w U M 113
  have B0 : Below w.heap.size w (w.alloc (.cells #[.int .i64 (U 0), .int .i64 (U 1), .int .i64 (U 2), .int .i64 (M 0), .int .i64 (M 1), .int .i64 (M 2)] 113)) := (Below.refl _ _).alloc (Nat.le_refl _) _
  clear u0 u1 u2 m0 m1 m2
  go_loopg [22] len (fun k s22 wr => ∃ j : Nat, j + k = len ∧ s22 = .int .i64 j ∧ Fine U M q j ∧ Ldg wr w.heap.size (upon U q j) M ∧ Below w.heap.size w wr)
  case atStart => exact ⟨0, by omega, rfl, fun _ h => absurd h (Nat.not_lt_zero _), L0, B0⟩
  case round =>
    clear L0 B0
    obtain ⟨j, hj, rfl, hF, L, B⟩ := hrel
    by_cases hlt : (j : Int) < (len : Int)
    · rcases hq with h0 | ⟨blk, off, rfl, hbl, hqq⟩
      · exfalso; omega
      obtain ⟨c0, c1⟩ := hqq j (by omega)
      have d0 : wr.cell? ⟨blk, off + j * 2, none⟩ = some (.int .i64 (q j).kind) := by rw [B.cell (p := ⟨blk, off + j * 2, none⟩) hbl]; exact c0
      have d1 : wr.cell? ⟨blk, off + j * 2 + 1, none⟩ = some (.int .i64 (q j).n) := by rw [B.cell (p := ⟨blk, off + j * 2 + 1, none⟩) hbl]; exact c1
      clear c0 c1 hqq
      have hfit := Fine.fit hU hM hF
      have L1 := L.more (.cells #[.int .i64 (q j).kind, .int .i64 (q j).n] 340)
      have B1 : Below w.heap.size w (wr.alloc (.cells #[.int .i64 (q j).kind, .int .i64 (q j).n] 340)) := B.alloc (by have := B.size; omega) _
      have FI := lhide hF
      clear hF
      by_cases hf : fault U M q j = 0
      · have hA := add_ok L1 hfit hM _ _ hf
        go_wp2_with fail
        refine hA.mono ?_
        rintro e w2 ⟨rfl, L2, g2⟩
        go_wp2_with fail
        go_roundg (gk - 1)
        case measure => omega
        case rel => exact ⟨j + 1, by omega, by go_num, FI.out.next hf, L2, below_of_grown B1 g2 (Nat.le_refl _)⟩
      · have hA := add_no L1 hfit hM _ _ hf
        go_wp2_with fail
        refine hA.mono ?_
        rintro e w2 ⟨rfl, b2⟩
        have B2 : Below w.heap.size w w2 := B1.trans (b2.mono B1.size)
        have hc : (why (upon U q j) M (q j).kind (q j).n != 0) = true := by simpa [fault] using hf
        have HF := lhide hf
        clear hA hf
        go_wp2_with fail
        go_ret
        refine .inr ⟨j, by omega, FI.out, HF.out, w2.heap.size, rfl, B2.size, ?_, B2.alloc B2.size _⟩
        show (w2.heap.push _)[w2.heap.size]? = _
        rw [Array.getElem?_push, if_pos rfl]
        rfl
    · obtain rfl : j = len := by omega
      have t0 := L.has 0 (by omega)
      have t1 := L.has 1 (by omega)
      have t2 := L.has 2 (by omega)
      have t3 : wr.cell? ⟨w.heap.size, 3, none⟩ = some (.int .i64 (M 0)) := L.may 0 (by omega)
      have t4 : wr.cell? ⟨w.heap.size, 4, none⟩ = some (.int .i64 (M 1)) := L.may 1 (by omega)
      have t5 : wr.cell? ⟨w.heap.size, 5, none⟩ = some (.int .i64 (M 2)) := L.may 2 (by omega)
      have lb : Hd wr b s t U M a := h.below B
      have s0 : wr.cell? ⟨b, 2, none⟩ = some (.int .i64 (U 0)) := lb.has 0 (by omega)
      have s1 : wr.cell? ⟨b, 3, none⟩ = some (.int .i64 (U 1)) := lb.has 1 (by omega)
      have s2 : wr.cell? ⟨b, 4, none⟩ = some (.int .i64 (U 2)) := lb.has 2 (by omega)
      have s3 : wr.cell? ⟨b, 5, none⟩ = some (.int .i64 (M 0)) := lb.may 0 (by omega)
      have s4 : wr.cell? ⟨b, 6, none⟩ = some (.int .i64 (M 1)) := lb.may 1 (by omega)
      have s5 : wr.cell? ⟨b, 7, none⟩ = some (.int .i64 (M 2)) := lb.may 2 (by omega)
      have f0 := lb.free 2
      have f1 := lb.free 3
      have f2 := lb.free 4
      have f3 := lb.free 5
      have f4 := lb.free 6
      have f5 := lb.free 7
      have fin := lhide (lb.all_put (upon U q j) M)
      have gr := lhide (lgrown_then (show w.grownBy wr (some b) from ⟨B.os, B.tape, B.output, B.size, fun i hi _ => B.block i hi⟩) (grown_six wr b (.int .i64 (upon U q j 0)) (.int .i64 (upon U q j 1)) (.int .i64 (upon U q j 2)) (.int .i64 (M 0)) (.int .i64 (M 1)) (.int .i64 (M 2))))
      have FI := lhide hF
      clear lb L B h hF
      go_wp2_with fail
      go_ret
      exact .inl ⟨FI.out, rfl, fin.out, gr.out⟩

/-- What a charge leaves. -/
def chU (U M : Nat → Int) (k n : Int) : Nat → Int := if why U M k n = 0 then after U k n else U
theorem grown_of_below {x : Option Nat} (h : Below w.heap.size w w') : w.grownBy w' x := ⟨h.os, h.tape, h.output, h.size, fun i hi _ => h.block i hi⟩
set_option maxRecDepth 100000 in
set_option maxHeartbeats 2000000 in
theorem Hd.charge (h : Hd w b s t U M a) (hU : Fit U) (hM : Fit M) (k n : Int) (hg : w.cell? ⟨0, 0, none⟩ = some errT) (_hgb : 0 ≠ b) :
    Calls Tryz.prog 134 #[wp b, .int .i64 k, .int .i64 n] w fun e w' => e = .returned (uev (why U M k n)) ∧ Hd w' b s t (chU U M k n) M a ∧ w.grownBy w' (some b) := by
  have hch : ∀ V cap, Below w.heap.size w V → V.cell? ⟨w.heap.size, 0, none⟩ = some (.int .i64 k) → V.cell? ⟨w.heap.size, 1, none⟩ = some (.int .i64 n) → Calls Tryz.prog 234 #[lq b, .slice (some ⟨w.heap.size, 0, none⟩) 1 cap] V fun e w' =>
      (why U M k n = 0 ∧ e = .returned .nilIface ∧ Hd w' b s t (chU U M k n) M a ∧ w.grownBy w' (some b)) ∨
      (why U M k n ≠ 0 ∧ ∃ x, e = .returned (atv x) ∧ Calls Tryz.prog 17 #[atv x] w' fun e w2 => e = .returned (.int .i64 (why U M k n)) ∧ Hd w2 b s t (chU U M k n) M a ∧ w.grownBy w2 (some b)) := fun V cap hV c0 c1 => by
    refine ((h.below hV).charge_go hU hM _ 1 cap (fun _ => ⟨k, n⟩) (.inr ⟨w.heap.size, 0, rfl, World.block_lt_of_cell? V _ c0, fun i hi => ?_⟩) (by omega) (by omega)).mono ?_
    · have : i = 0 := by omega
      subst this
      exact ⟨c0, c1⟩
    · rintro e w' (⟨hF, rfl, h', g⟩ | ⟨p, hp, hF, hf, x, rfl, hx, hA, hb⟩)
      · have e0 : why U M k n = 0 := hF 0 (by omega)
        refine .inl ⟨e0, rfl, ?_, lgrown_then (grown_of_below hV) g⟩
        unfold chU; rw [if_pos e0]; exact h'
      · have : p = 0 := by omega
        subst this
        have hf' : why U M k n ≠ 0 := hf
        have hbb : Below w.heap.size w w' := hV.trans (hb.mono hV.size)
        refine .inr ⟨hf', x, rfl, (tell_at x _ _ w' hA.is ?_).mono ?_⟩
        · rw [hbb.cell (p := ⟨0, 0, none⟩) (World.block_lt_of_cell? w _ hg)]; exact hg
        · rintro e w2 ⟨rfl, b2⟩
          have b3 := hbb.trans (b2.mono hbb.size)
          refine ⟨rfl, ?_, grown_of_below b3⟩
          unfold chU; rw [if_neg hf']; exact h.below b3
  have HC : Aside _ := hch
  clear hch
  go_enter Tryz.func134, Tryz.ntmps134
  go_wp2_with fail
  have hA : Below w.heap.size w (w.alloc (.cells #[.int .i64 k, .int .i64 n] 340)) := (Below.refl _ w).alloc (Nat.le_refl _) _
  obtain ⟨c0, c1⟩ := new_pair w (.int .i64 k) (.int .i64 n) 340
  have hC := HC.out _ 1 hA c0 c1
  clear HC hA c0 c1 h hU hM
  refine hC.mono ?_
  rintro e w1 (⟨e0, rfl, h1, g1⟩ | ⟨e0, x, rfl, hT⟩)
  · have E0 : Aside (why U M k n = 0) := e0
    clear e0
    go_wp2_with fail
    go_ret
    exact ⟨by rw [E0.out]; rfl, h1, g1⟩
  · have E0 : Aside (why U M k n ≠ 0) := e0
    clear e0
    go_wp2_with (go_at_call 17; refine hT.mono ?_; rintro e w2 ⟨rfl, h2, g2⟩)
    go_ret
    exact ⟨by rw [uev_ne E0.out]; rfl, h2, g2⟩
end
end Go.Proofs.YtcfhanoekniaaaaGreatDoor

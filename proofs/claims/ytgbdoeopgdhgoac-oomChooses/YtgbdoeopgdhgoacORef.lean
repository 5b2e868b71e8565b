/- The document's own Victim, by its Go text. -/
import Derived.Test.YtgbdoeopgdhgoacOAbs
import Derived.Test.YtgbdoeopgdhgoacKeys
import Derived.ChangeAlike
import Derived.BigQuiet
import Derived.Outline
import Derived.Deep.LoopGhost
import Derived.Sort.LoopGhostIn
import Derived.Deep.Light
import Derived.Deep.DeepCutAuto
namespace Go.Proofs.Ytgbdoeopgdhgoac
open Go.RowKit

/-- Candidates lie in an array. -/
def Cds (w : World) (ad : Option Addr) (L : List Cd) : Prop :=
  L = [] ∨ ∃ blk off, ad = some ⟨blk, off, none⟩ ∧ blk < w.heap.size ∧ ∀ j (hj : j < L.length), w.cell? ⟨blk, off + j * 3, none⟩ = some (.int .i64 L[j].pid) ∧ w.cell? ⟨blk, off + j * 3 + 1, none⟩ = some (.int .i64 L[j].res) ∧ w.cell? ⟨blk, off + j * 3 + 2, none⟩ = some (.int .i64 L[j].adj)
theorem takeC {L : List Cd} {i : Nat} (h : i < L.length) : L.take (i + 1) = L.take i ++ [L[i]] := by
  rw [List.take_add_one, List.getElem?_eq_getElem h]; rfl
theorem clp_two (lo hi x : Int) (h : lo ≤ hi) : clp lo hi x = if hi < (if x < lo then lo else x) then hi else (if x < lo then lo else x) := by
  unfold clp
  by_cases h1 : x < lo
  · rw [if_pos h1, if_pos h1, if_neg (by omega)]
  · rw [if_neg h1, if_neg h1]
/-- How a number is bounded, three ways. -/
theorem clp_ways (lo hi x : Int) : (x < lo ∧ clp lo hi x = lo) ∨ (¬ x < lo ∧ hi < x ∧ clp lo hi x = hi) ∨ (¬ x < lo ∧ ¬ hi < x ∧ clp lo hi x = x) := by
  unfold clp; split
  · exact .inl ⟨by assumption, rfl⟩
  · split
    · exact .inr (.inl ⟨by assumption, by assumption, rfl⟩)
    · exact .inr (.inr ⟨by assumption, by assumption, rfl⟩)
set_option maxRecDepth 100000 in
set_option maxHeartbeats 4000000 in
theorem refVictim_ok (w : World) (ad : Option Addr) (L : List Cd) (cap : Nat) (hl : L.length ≤ 1000) (h : Cds w ad L) :
    Calls Try.prog 5 #[.slice ad L.length cap] w fun e w' => e = .returned (.tuple #[.int .i64 (vic L).2, .bool (decide (0 < (vic L).1))]) ∧ Below w.heap.size w w' := by
  have HCD : Aside (Cds w ad L) := h
  clear h
  go_enter Try.func5, Try.ntmps5
  go_wp2_with fail
  go_loopg [4, 5, 13] L.length (fun mm s4 s5 s13 wr => ∃ i : Nat, i + mm = L.length ∧ s13 = .int .i64 (i : Int) ∧ s4 = .int .i64 (vic (L.take i)).1 ∧ s5 = .int .i64 (vic (L.take i)).2 ∧ Below w.heap.size w wr)
  case atStart => exact ⟨0, by omega, rfl, rfl, rfl, Below.refl _ _⟩
  case round =>
    obtain ⟨i, hi, rfl, rfl, rfl, hbel⟩ := hrel
    by_cases hlt : (i : Int) < (L.length : Int)
    · have hiL : i < L.length := by omega
      rcases HCD.out with h0 | ⟨blk, off, rfl, hbl, hq⟩
      · rw [h0] at hiL; cases hiL
      obtain ⟨d0, d1, d2⟩ := hq i hiL
      have c0 : wr.cell? ⟨blk, off + i * 3, none⟩ = some (.int .i64 L[i].pid) := by rw [hbel.cell (p := ⟨blk, off + i * 3, none⟩) hbl]; exact d0
      have c1 : wr.cell? ⟨blk, off + i * 3 + 1, none⟩ = some (.int .i64 L[i].res) := by rw [hbel.cell (p := ⟨blk, off + i * 3 + 1, none⟩) hbl]; exact d1
      have c2 : wr.cell? ⟨blk, off + i * 3 + 2, none⟩ = some (.int .i64 L[i].adj) := by rw [hbel.cell (p := ⟨blk, off + i * 3 + 2, none⟩) hbl]; exact d2
      clear d0 d1 d2 hq
      have hsn := vic_snoc (L.take i) L[i]
      rw [← takeC hiL] at hsn
      have hA := fun o => hbel.alloc hbel.size o
      have HSN : Aside _ := hsn
      clear hsn
      generalize vic (L.take i) = s at *
      obtain ⟨b, p⟩ := s
      generalize hvv : vic (L.take (i + 1)) = v at *
      have HVV : Aside (vic (L.take (i + 1)) = v) := hvv
      clear hvv
      generalize L[i] = c at *
      obtain ⟨X, R, D⟩ := c
      simp only at c0 c1 c2 HSN
      have hwg : wgt ⟨X, R, D⟩ = clp 0 1000 R * (100 + clp (-100) 100 D) := rfl
      have hv : v = if b < wgt ⟨X, R, D⟩ ∨ (wgt ⟨X, R, D⟩ = b ∧ 0 < wgt ⟨X, R, D⟩ ∧ p < X) then (wgt ⟨X, R, D⟩, X) else (b, p) := HSN.out
      have hin := wgt_in ⟨X, R, D⟩
      rw [hwg] at hv hin
      have hr := clp_in 0 1000 R (by omega)
      have ha := clp_in (-100) 100 D (by omega)
      go_upto_region 5 with fail
      go_quiet (fail)
      have hb2 := hA (.cells #[.int .i64 X, .int .i64 R, .int .i64 D] 26)
      have hcl : ((wr.alloc (.cells #[.int .i64 X, .int .i64 R, .int .i64 D] 26)).drewN nq).cell? ⟨wr.heap.size, 0, none⟩ = some (.int .i64 X) := by
        rw [cell_of_row _ _ _ _ _ _ (show (wr.heap.push _)[wr.heap.size]? = some _ by rw [Array.getElem?_push, if_pos rfl])]; rfl
      have hb3 : Below w.heap.size w ((wr.alloc (.cells #[.int .i64 X, .int .i64 R, .int .i64 D] 26)).drewN nq) := ⟨hb2.os, hb2.tape, hb2.output, hb2.size, hb2.block⟩
      obtain ⟨w5, hw5⟩ : ∃ w5, (wr.alloc (.cells #[.int .i64 X, .int .i64 R, .int .i64 D] 26)).drewN nq = w5 := ⟨_, rfl⟩
      obtain ⟨z, hz⟩ : ∃ z, wr.heap.size = z := ⟨_, rfl⟩
      rw [hw5, hz] at hcl
      rw [hw5] at hb3
      rw [hw5, hz]
      clear hw5 hz hb2 hA c0 c1 c2 hbel
      go_upto_if 22 with fail
      go_cut [8] (fun s8 wc => s8 = .int .i64 (if R < 0 then 0 else R) ∧ wc = w5)
      case first =>
        by_cases h1 : R < 0
        · go_wp2_with fail
          go_meet
          case rel => exact ⟨by rw [if_pos h1], rfl⟩
        · go_wp2_with fail
          go_meet
          case rel => exact ⟨by rw [if_neg (by omega)], rfl⟩
      case rest =>
        obtain ⟨rfl, hwc⟩ := hcut
        subst wc
        obtain ⟨r1, hr1⟩ : ∃ r1, (if R < 0 then 0 else R) = r1 := ⟨_, rfl⟩
        have HR1 : Aside (clp 0 1000 R = if 1000 < r1 then 1000 else r1) := by
          rw [← hr1]; exact clp_two 0 1000 R (by omega)
        rw [hr1]
        clear hr1
        go_upto_if 24 with fail
        go_cut [8] (fun s8 wc => s8 = .int .i64 (clp 0 1000 R) ∧ wc = w5)
        case first =>
          by_cases h1 : 1000 < r1
          · go_wp2_with fail
            go_meet
            case rel => exact ⟨by rw [HR1.out, if_pos (by omega)], rfl⟩
          · go_wp2_with fail
            go_meet
            case rel => exact ⟨by rw [HR1.out, if_neg (by omega)], rfl⟩
        case rest =>
          obtain ⟨rfl, hwc⟩ := hcut
          subst wc
          clear HR1
          generalize clp 0 1000 R = r at *
          go_upto_if 26 with fail
          go_cut [9] (fun s9 wc => s9 = .int .i64 (if D < -100 then -100 else D) ∧ wc = w5)
          case first =>
            by_cases h1 : D < -100
            · go_wp2_with fail
              go_meet
              case rel => exact ⟨by rw [if_pos (by omega)], rfl⟩
            · go_wp2_with fail
              go_meet
              case rel => exact ⟨by rw [if_neg (by omega)], rfl⟩
          case rest =>
            obtain ⟨rfl, hwc⟩ := hcut
            subst wc
            obtain ⟨a1, ha1⟩ : ∃ a1, (if D < -100 then -100 else D) = a1 := ⟨_, rfl⟩
            have HA1 : Aside (clp (-100) 100 D = if 100 < a1 then 100 else a1) := by
              rw [← ha1]; exact clp_two (-100) 100 D (by omega)
            rw [ha1]
            clear ha1
            go_upto_if 28 with fail
            go_cut [9] (fun s9 wc => s9 = .int .i64 (clp (-100) 100 D) ∧ wc = w5)
            case first =>
              by_cases h1 : 100 < a1
              · go_wp2_with fail
                go_meet
                case rel => exact ⟨by rw [HA1.out, if_pos (by omega)], rfl⟩
              · go_wp2_with fail
                go_meet
                case rel => exact ⟨by rw [HA1.out, if_neg (by omega)], rfl⟩
            case rest =>
              obtain ⟨rfl, hwc⟩ := hcut
              subst wc
              clear HA1
              generalize clp (-100) 100 D = a at *
              obtain ⟨W, hW⟩ : ∃ W, r * (100 + a) = W := ⟨_, rfl⟩
              rw [hW] at hv hin
              have hwr : wrap64 (r * (100 + a)) = W := by rw [hW]; unfold wrap64; omega
              clear hwg HSN
              have hfin : ∀ V, Below w5.heap.size w5 V → Below w.heap.size w V := fun V hV => hb3.trans (hV.mono hb3.size)
              have hdr : ∀ n, Below w.heap.size w (w5.drewN n) := fun n => ⟨hb3.os, hb3.tape, hb3.output, hb3.size, hb3.block⟩
              by_cases k1 : b < W
              · have hv2 : v = (W, X) := by rw [hv, if_pos (.inl k1)]
                have HV2 : Aside (v = (W, X)) := hv2
                clear hv hv2 hW
                go_upto_region 16 with fail
                go_quiet (fail)
                go_wp2_with fail
                go_roundg (gk - 1)
                case measure => omega
                case rel => exact ⟨i + 1, by omega, by go_num, by rw [hwr, HVV.out, HV2.out], by rw [HVV.out, HV2.out], hdr _⟩
              · by_cases k2 : W = b ∧ 0 < W ∧ p < X
                · have hv2 : v = (W, X) := by rw [hv, if_pos (.inr k2)]
                  have HV2 : Aside (v = (W, X)) := hv2
                  obtain ⟨k3, k4, k5⟩ := k2
                  subst k3
                  clear hv hv2 hW
                  go_upto_region 16 with fail
                  go_quiet (fail)
                  go_wp2_with fail
                  go_roundg (gk - 1)
                  case measure => omega
                  case rel => exact ⟨i + 1, by omega, by go_num, by rw [HVV.out, HV2.out], by rw [HVV.out, HV2.out], hdr _⟩
                · have hv2 : v = (b, p) := by rw [hv, if_neg (fun z => z.elim k1 k2)]
                  have HV2 : Aside (v = (b, p)) := hv2
                  clear hv hv2 hW
                  by_cases k3 : W = b
                  · subst k3
                    by_cases k4 : 0 < W
                    · have k5 : ¬ p < X := fun z => k2 ⟨rfl, k4, z⟩
                      clear k2
                      go_wp2_with fail
                      go_roundg (gk - 1)
                      case measure => omega
                      case rel => exact ⟨i + 1, by omega, by go_num, by rw [HVV.out, HV2.out], by rw [HVV.out, HV2.out], hb3⟩
                    · clear k2
                      go_wp2_with fail
                      go_roundg (gk - 1)
                      case measure => omega
                      case rel => exact ⟨i + 1, by omega, by go_num, by rw [HVV.out, HV2.out], by rw [HVV.out, HV2.out], hb3⟩
                  · have k3b : (W == b) = false := by simpa using k3
                    clear k2
                    go_wp2_with fail
                    go_roundg (gk - 1)
                    case measure => omega
                    case rel => exact ⟨i + 1, by omega, by go_num, by rw [HVV.out, HV2.out], by rw [HVV.out, HV2.out], hb3⟩
    · have hiL : i = L.length := by omega
      have HT : Aside (L.take i = L) := by rw [hiL]; exact List.take_length
      clear hiL
      go_wp2_with fail
      go_ret2
      rw [HT.out]
      exact ⟨rfl, hbel⟩
end Go.Proofs.Ytgbdoeopgdhgoac

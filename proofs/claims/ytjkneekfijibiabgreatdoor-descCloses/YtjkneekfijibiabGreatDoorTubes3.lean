/- What take and Read of package pipe do to a world, each by its Go text. -/
import Derived.Test.YtjkneekfijibiabGreatDoorTubes2
namespace Go.Proofs.YtjkneekfijibiabGreatDoor
open Go.RowKit

theorem conv_bytes (w : World) (b n c : Nat) (B : List UInt8) (hn : n ≤ B.length) (hc : ∀ k, k < n → w.cell? ⟨b, 4 + k, none⟩ = some (.int .u8 (bt B k))) :
    (convert 29 9 (.slice (some ⟨b, 4, none⟩) n c)).run Tryz.prog w = .ok (txt (B.take n)) w := by
  have h := run_convert_bytes_arg (P := Tryz.prog) w 29 5 Tryz.underlying29 Tryz.underlying5 b 4 n c ((B.take n).map fun x => (x.toNat : Int)) (by simp; omega) (fun i hi => by
    have hi' : i < B.length := by omega
    rw [hc i hi]
    congr 2
    simp [bt, List.getD, hi', List.getElem?_take_of_lt hi]) 9 Tryz.underlying9
  rw [h, show strOfNums ((B.take n).map fun x => (x.toNat : Int)) = ⟨(B.take n).toArray⟩ by apply ByteArray.ext; simp [strOfNums, Function.comp_def]]

section
variable {w : World} {b : Nat} {F I : Int} {B : List UInt8}

set_option maxHeartbeats 2000000 in
theorem Tb.take_ok (h : Tb w b F I B) (n : Nat) (h1 : 1 ≤ n) (hn : n ≤ B.length) :
    Calls Tryz.prog 142 #[tp b, .int .i64 (n : Int)] w fun x w' => x = .returned (txt (B.take n)) ∧ Tb w' b F I (B.drop n) ∧ w.grownBy w' (some b) := by
  have hfew := h.few
  have hl20 := h.live 20 (by omega)
  have hsl1 := arr_h b n (by omega)
  have hconv := conv_bytes w b n 16 B hn (fun k hk => h.byte k (by omega))
  have hc0 := h.held
  have hall := arr_all b
  have hd : (B.drop n).length = B.length - n := by simp
  have hk : Tb (w.drewN 1) b F I B := h.keep rfl
  have hcopy : ∀ ty (sl : Value), sl = (if n = 16 then .slice (some ⟨b, 4, none⟩) 0 0 else .slice (some ⟨b, 4 + n, none⟩) (B.length - n) (16 - n)) →
      (Builtin.copy_ #[29, 29] ty #[.slice (some ⟨b, 4, none⟩) 16 16, sl]).run Tryz.prog w.drew = .ok (.int .i64 ((B.length - n : Nat) : Int)) (w.drew.setCells b 4 (bcs (B.drop n))) := by
    rintro ty sl rfl
    by_cases h16 : n = 16
    · rw [if_pos h16]
      have e0 : B.drop n = [] := List.drop_eq_nil_of_le (by omega)
      have := run_copy_none (P := Tryz.prog) w.drew 29 29 ty 5 (some ⟨b, 4, none⟩) (some ⟨b, 4, none⟩) 16 16 0 0 Tryz.underlying29 (by kernel_rfl) (by rfl)
      rw [this, e0, show B.length - n = 0 by omega]; rfl
    · rw [if_neg h16]
      have := run_copy_cells (P := Tryz.prog) w.drew 29 29 ty 5 b 4 16 16 ⟨b, 4 + n, none⟩ (B.length - n) (16 - n) (bcs (B.drop n)) Tryz.underlying29 (by kernel_rfl) (by rw [bcs_len, hd]; exact (Nat.min_eq_left (by omega)).symm) (fun j v hv => by
        obtain ⟨hj, rfl⟩ := bcs_get? _ _ _ hv
        rw [Addr.add_lit, bt_drop, show 4 + n + j = 4 + (n + j) by omega]
        exact (h.keep (w' := w.drew) rfl).byte (n + j) (by omega)) (by rw [bcs_len, hd]; exact (h.keep (w' := w.drew) rfl).some_at 4 _ (by omega) (by omega)) (by rw [bcs_len, hd]; exact (h.keep (w' := w.drew) rfl).free_at 4 _ (by omega)) (bcs_one _)
      rw [this, bcs_len, hd]; rfl
  obtain ⟨D, hD⟩ : ∃ D, B.length - n = D := ⟨_, rfl⟩
  have hD16 : D < 16 := by omega
  obtain ⟨w1, hw1⟩ : ∃ w1, w.drew.setCells b 4 (bcs (B.drop n)) = w1 := ⟨_, rfl⟩
  have hc1 : w1.cell? ⟨b, 20, none⟩ = some (.int .i64 (B.length : Int)) := by
    rw [← hw1, out_cell (n := D) (by rw [bcs_len, hd, hD]) (by omega)]; exact hc0
  have hf1 : w1.frozen? ⟨b, 20, none⟩ = false := by rw [← hw1, World.frozen?_setCells]; exact hl20
  have hsl3 := arr_l b D hD16
  have hT := (h.keep (w' := w.drew) rfl).take n hn
  rw [hD, hw1] at hT
  have hclear : ∀ ty, (Builtin.clear_ #[29] ty #[.slice (some ⟨b, 4 + D, none⟩) (16 - D) (16 - D)]).run Tryz.prog (w1.setCell ⟨b, 20, none⟩ (.int .i64 (D : Int))).drew = .ok (.tuple #[]) ((w1.setCell ⟨b, 20, none⟩ (.int .i64 (D : Int))).drew.setCells b (4 + D) (List.replicate (16 - D) (.int .u8 0))) := fun ty =>
    Lib.run_clear_slice _ 29 5 ty (.int .u8 0) Tryz.underlying29 (fun _ => Tryz.zeroValue5 _) rfl rfl b (4 + D) (16 - D) (16 - D) (by omega) (fun j hj => by
      show ((w1.setCell ⟨b, 20, none⟩ (.int .i64 (D : Int))).cell? ⟨b, 4 + D + j, none⟩).isSome = true
      rw [World.cell?_setCell_other _ _ _ _ (off_ne (by omega)), ← hw1, out_cell (n := D) (by rw [bcs_len, hd, hD]) (by omega)]
      exact (h.keep (w' := w.drew) rfl).some_at 4 16 (by omega) (by omega) (D + j) (by omega) |> fun x => by rw [show 4 + D + j = 4 + (D + j) by omega]; exact x) (fun j hj => by
      show (w1.setCell ⟨b, 20, none⟩ (.int .i64 (D : Int))).frozen? ⟨b, 4 + D + j, none⟩ = false
      rw [World.frozen?_setCell, ← hw1, World.frozen?_setCells]; exact h.live (4 + D + j) (by omega))
  have gro : w.grownBy (((w1.setCell ⟨b, 20, none⟩ (.int .i64 (D : Int))).drew).setCells b (4 + D) (List.replicate (16 - D) (.int .u8 0))) (some b) := by
    rw [← hw1]
    exact tgrown_trans (tgrown_drew (tgrown_trans (tgrown_trans (tgrown_drew (World.grownBy.refl w _)) (tgrown_sets b _ 4 _)) (tgrown_set _ _ _ _))) (tgrown_sets b _ _ _)
  have hT' : Tb ((w1.setCell ⟨b, 20, none⟩ (.int .i64 (D : Int))).drew.setCells b (4 + D) (List.replicate (16 - D) (.int .u8 0))) b F I (B.drop n) := hT.keep (by
    rw [show ((w1.setCell ⟨b, 20, none⟩ (.int .i64 (D : Int))).drew.setCells b (4 + D) (List.replicate (16 - D) (.int .u8 0))) = ((w1.setCell ⟨b, 20, none⟩ (.int .i64 (D : Int))).setCells b (4 + D) (List.replicate (16 - D) (.int .u8 0))).drew from (drew_cells b _ _ _).symm]
    rfl)
  have hc3 : (w1.setCell ⟨b, 20, none⟩ (.int .i64 (D : Int))).cell? ⟨b, 20, none⟩ = some (.int .i64 (D : Int)) := World.cell?_setCell_same _ _ _ hc1
  rw [hD, hw1] at hcopy
  obtain ⟨K, hK⟩ : ∃ K, B.length = K := ⟨_, rfl⟩
  rw [hK] at hc0 hc1 hn hfew hD
  generalize B.take n = T at *
  generalize B.drop n = E at *
  generalize List.replicate (16 - D) (Value.int .u8 0) = zs at *
  by_cases h16 : n = 16
  · subst h16
    have hslE := arr_end b
    have hcp := fun ty => hcopy ty _ (if_pos rfl).symm
    obtain rfl : K = 16 := by omega
    clear hcopy hT h hk
    go_enter Tryz.func142, Tryz.ntmps142
    go_wp2_with fail
    go_region
    go_wp2_with fail
    go_region
    go_wp2_with fail
    go_ret
    exact ⟨rfl, hT', gro⟩
  · have hsl2 := arr_lh b n K (by omega) hn (by omega)
    simp only [hD] at hsl2
    have hcp := fun ty => hcopy ty _ (if_neg h16).symm
    clear hcopy hT h hk
    go_enter Tryz.func142, Tryz.ntmps142
    go_wp2_with fail
    go_region
    go_wp2_with fail
    go_region
    go_wp2_with fail
    go_ret
    exact ⟨rfl, hT', gro⟩

set_option maxHeartbeats 2000000 in
theorem Tb.read_ok (h : Tb w b F I B) (n : Int) (hI : 0 ≤ I) :
    Calls Tryz.prog 110 #[tp b, .int .i64 n] w fun x w' => x = .returned (.tuple #[txt (B.take n.toNat), erT (rdE I B n)]) ∧ Tb w' b F I (B.drop n.toNat) ∧ w.grownBy w' (some b) := by
  have hE := h.ends
  have hL := h.len
  have hc0 := h.held
  have hfew := h.few
  by_cases h0 : n < 0
  · have e1 : rdE I B n = 2 := by unfold rdE; rw [if_pos h0]
    have e2 : n.toNat = 0 := by omega
    rw [e1, e2, List.take_zero, List.drop_zero]
    go_enter Tryz.func110, Tryz.ntmps110
    go_wp2_with fail
    go_ret2
    exact ⟨rfl, h, World.grownBy.refl _ _⟩
  · by_cases hz : n = 0
    · subst hz
      go_enter Tryz.func110, Tryz.ntmps110
      go_wp2_with fail
      go_ret2
      exact ⟨rfl, h, World.grownBy.refl _ _⟩
    · have hnq : (n == 0) = false := by simp [hz]
      by_cases hB : B = []
      · subst hB
        by_cases hI0 : 0 < I
        · have e1 : rdE I [] n = 8 := by unfold rdE; rw [if_neg h0, if_neg hz, if_pos ⟨rfl, hI0⟩]
          rw [e1, List.take_nil, List.drop_nil]
          go_enter Tryz.func110, Tryz.ntmps110
          go_wp2_with fail
          refine hL.mono ?_
          rintro x w1 ⟨rfl, hw⟩
          subst w1
          go_wp2_with fail
          refine hE.mono ?_
          rintro x w1 ⟨rfl, q, rfl⟩
          go_wp2_with fail
          go_ret2
          exact ⟨rfl, h.keep rfl, tgrown_drewN _ _ _⟩
        · have e1 : rdE I [] n = 0 := by unfold rdE; rw [if_neg h0, if_neg hz, if_neg (fun e => hI0 e.2)]
          rw [e1, List.take_nil, List.drop_nil]
          go_enter Tryz.func110, Tryz.ntmps110
          go_wp2_with fail
          refine hL.mono ?_
          rintro x w1 ⟨rfl, hw⟩
          subst w1
          go_wp2_with fail
          refine hE.mono ?_
          rintro x w1 ⟨rfl, q, rfl⟩
          go_wp2_with fail
          go_ret2
          exact ⟨rfl, h.keep rfl, tgrown_drewN _ _ _⟩
      · have hBl : 0 < B.length := by cases B with
          | nil => exact absurd rfl hB
          | cons _ _ => simp
        have e1 : rdE I B n = 0 := by unfold rdE; rw [if_neg h0, if_neg hz, if_neg (fun e => hB e.1)]
        have e2 : B.take n.toNat = B.take (min n.toNat B.length) := by
          by_cases hm : n.toNat ≤ B.length
          · rw [Nat.min_eq_left hm]
          · rw [Nat.min_eq_right (by omega), List.take_of_length_le (by omega), List.take_of_length_le (by omega)]
        have e3 : B.drop n.toNat = B.drop (min n.toNat B.length) := by
          by_cases hm : n.toNat ≤ B.length
          · rw [Nat.min_eq_left hm]
          · rw [Nat.min_eq_right (by omega), List.drop_eq_nil_of_le (by omega), List.drop_eq_nil_of_le (by omega)]
        obtain ⟨m, hm⟩ : ∃ m, min n.toNat B.length = m := ⟨_, rfl⟩
        rw [hm] at e2 e3
        have hT := h.take_ok m (by omega) (by omega)
        rw [e1, e2, e3]
        clear e1 e2 e3
        obtain ⟨K, hK⟩ : ∃ K, B.length = K := ⟨_, rfl⟩
        rw [hK] at hc0 hfew hBl hm hL
        have hKq : ((K : Int) == 0) = false := by simp; omega
        generalize B.take m = T at *
        generalize B.drop m = E at *
        clear h hB hK
        by_cases hnm : n ≤ (K : Int)
        · have hm' : (m : Int) = n := by omega
          rw [hm'] at hT
          go_enter Tryz.func110, Tryz.ntmps110
          go_wp2_with fail
          refine hL.mono ?_
          rintro x w1 ⟨rfl, hw⟩
          subst w1
          go_wp2_with fail
          refine hT.mono ?_
          rintro x w1 ⟨rfl, hT', g⟩
          go_wp2_with fail
          go_ret2
          exact ⟨rfl, hT', g⟩
        · have hm' : m = K := by omega
          rw [hm'] at hT
          go_enter Tryz.func110, Tryz.ntmps110
          go_wp2_with fail
          refine hL.mono ?_
          rintro x w1 ⟨rfl, hw⟩
          subst w1
          go_wp2_with fail
          refine hT.mono ?_
          rintro x w1 ⟨rfl, hT', g⟩
          go_wp2_with fail
          go_ret2
          exact ⟨rfl, hT', g⟩
end
end Go.Proofs.YtjkneekfijibiabGreatDoor

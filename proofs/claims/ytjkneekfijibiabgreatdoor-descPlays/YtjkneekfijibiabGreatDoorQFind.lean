/- What Close, Write and Read of package pipe do to a world, each by its Go text. -/
import Derived.Test.YtjkneekfijibiabGreatDoorTubes
import Derived.Deep.RegionHeld3
namespace Go.Proofs.YtjkneekfijibiabGreatDoor
open Go.RowKit

section
variable {w : World} {b : Nat} {F I : Int} {B : List UInt8}

set_option maxHeartbeats 1000000 in
theorem Tb.close_ok (h : Tb w b F I B) (e : Int) (hF : 0 ≤ F) (hF' : F < 1000) (hI : 0 ≤ I) (hI' : I < 1000) :
    Calls Tryz.prog 176 #[tp b, .int .i64 e] w fun x w' => x = .returned (erT (clE F I e)) ∧ Tb w' b (clF F e) (clI I e) B ∧ w.grownBy w' (some b) := by
  have c1 := h.frm
  have c2 := h.int
  have l2 := h.live 2 (by omega)
  have l3 := h.live 3 (by omega)
  by_cases h2 : e = 2
  · subst h2
    by_cases hz : F = 0
    · subst hz
      go_enter Tryz.func176, Tryz.ntmps176
      go_wp2_with (go_at_call 175; refine (thas_yes _ b 2 (by omega)).mono ?_; rintro x w' ⟨rfl, rfl⟩)
      go_ret
      exact ⟨rfl, h, World.grownBy.refl _ _⟩
    · have e1 : clE F I 2 = 0 := by unfold clE; rw [if_pos rfl, if_neg hz]
      have e2 : clF F 2 = F - 1 := by unfold clF; rw [if_pos ⟨rfl, hz⟩]
      have e3 : clI I 2 = I := by unfold clI; rw [if_neg (by omega)]
      have hq : (F == 0) = false := by simp [hz]
      rw [e1, e2, e3]
      go_enter Tryz.func176, Tryz.ntmps176
      go_wp2_with (go_at_call 175; refine (thas_yes _ b 2 (by omega)).mono ?_; rintro x w' ⟨rfl, rfl⟩)
      go_region
      go_wp2
      go_ret
      exact ⟨rfl, (h.putF (F - 1)).keep rfl, tgrown_drew (tgrown_set _ _ _ _)⟩
  · by_cases h3 : e = 3
    · subst h3
      by_cases hz : I = 0
      · subst hz
        go_enter Tryz.func176, Tryz.ntmps176
        go_wp2_with (go_at_call 175; refine (thas_yes _ b 3 (by omega)).mono ?_; rintro x w' ⟨rfl, rfl⟩)
        go_ret
        exact ⟨rfl, h, World.grownBy.refl _ _⟩
      · have e1 : clE F I 3 = 0 := by unfold clE; rw [if_neg (by omega), if_pos rfl, if_neg hz]
        have e2 : clF F 3 = F := by unfold clF; rw [if_neg (by omega)]
        have e3 : clI I 3 = I - 1 := by unfold clI; rw [if_pos ⟨rfl, hz⟩]
        have hq : (I == 0) = false := by simp [hz]
        rw [e1, e2, e3]
        go_enter Tryz.func176, Tryz.ntmps176
        go_wp2_with (go_at_call 175; refine (thas_yes _ b 3 (by omega)).mono ?_; rintro x w' ⟨rfl, rfl⟩)
        go_region
        go_wp2
        go_ret
        exact ⟨rfl, (h.putI (I - 1)).keep rfl, tgrown_drew (tgrown_set _ _ _ _)⟩
    · have e1 : clE F I e = 1 := by unfold clE; rw [if_neg h2, if_neg h3]
      have e2 : clF F e = F := by unfold clF; rw [if_neg (by omega)]
      have e3 : clI I e = I := by unfold clI; rw [if_neg (by omega)]
      rw [e1, e2, e3]
      go_enter Tryz.func176, Tryz.ntmps176
      go_wp2_with (go_at_call 175; refine (thas_not _ b e (by omega)).mono ?_; rintro x w' ⟨rfl, rfl⟩)
      go_ret
      exact ⟨rfl, h, World.grownBy.refl _ _⟩

theorem tgrown_drewN (w : World) (q : Nat) (r : Option Nat) : w.grownBy (w.drewN q) r := ⟨rfl, rfl, rfl, Nat.le_refl _, fun _ _ _ => rfl⟩

set_option maxHeartbeats 2000000 in
theorem Tb.write_ok (h : Tb w b F I B) (s : List UInt8) :
    Calls Tryz.prog 109 #[tp b, txt s] w fun x w' => x = .returned (.tuple #[.int .i64 (wrN F B s : Int), erT (wrE F B s)]) ∧ Tb w' b F I (wrB F B s) ∧ w.grownBy w' (some b) := by
  have hE := h.ends
  by_cases hz : F = 0
  · subst hz
    go_enter Tryz.func109, Tryz.ntmps109
    go_wp2_with fail
    refine hE.mono ?_
    rintro x w1 ⟨rfl, q, rfl⟩
    go_wp2_with fail
    go_ret2
    exact ⟨rfl, h.keep rfl, tgrown_drewN _ _ _⟩
  · have hq : (F == 0) = false := by simp [hz]
    by_cases hs : s = []
    · subst hs
      have e1 : wrE F B [] = 0 := by unfold wrE; rw [if_neg hz, if_pos rfl]
      have e2 : wrN F B [] = 0 := by unfold wrN; rw [if_neg hz]; simp
      have e3 : wrB F B [] = B := by unfold wrB; rw [if_neg hz]; simp
      rw [e1, e2, e3]
      go_enter Tryz.func109, Tryz.ntmps109
      go_wp2_with fail
      refine hE.mono ?_
      rintro x w1 ⟨rfl, q, rfl⟩
      go_wp2_with fail
      go_ret2
      exact ⟨rfl, h.keep rfl, tgrown_drewN _ _ _⟩
    · have hsq : s.isEmpty = false := by cases s with
        | nil => exact absurd rfl hs
        | cons _ _ => rfl
      have hc0 := h.held
      by_cases hf : B.length = 16
      · have e1 : wrE F B s = 12 := by unfold wrE; rw [if_neg hz, if_neg hs, if_pos hf]
        have e2 : wrN F B s = 0 := by unfold wrN; rw [if_neg hz, hf]; simp
        have e3 : wrB F B s = B := by unfold wrB; rw [if_neg hz, hf]; simp
        rw [hf] at hc0
        rw [e1, e2, e3]
        go_enter Tryz.func109, Tryz.ntmps109
        go_wp2_with fail
        refine hE.mono ?_
        rintro x w1 ⟨rfl, q, rfl⟩
        go_wp2_with fail
        go_ret2
        exact ⟨rfl, h.keep rfl, tgrown_drewN _ _ _⟩
      · have hfew := h.few
        have e1 : wrE F B s = 0 := by unfold wrE; rw [if_neg hz, if_neg hs, if_neg hf]
        obtain ⟨S, hS⟩ : ∃ S, s.take (16 - B.length) = S := ⟨_, rfl⟩
        have hSl : S.length = min s.length (16 - B.length) := by rw [← hS, List.length_take]; exact Nat.min_comm _ _
        have e2 : wrN F B s = S.length := by unfold wrN; rw [if_neg hz, hSl]
        have e3 : wrB F B s = B ++ S := by unfold wrB; rw [if_neg hz, hS]
        rw [e1, e2, e3]
        have hSl' : B.length + S.length ≤ 16 := by omega
        obtain ⟨K, hK⟩ : ∃ K, B.length = K := ⟨_, rfl⟩
        have hfq : ((K : Int) == 16) = false := by simp; omega
        have hl20 := h.live 20 (by omega)
        have hcopy : ∀ q ty, (Builtin.copy_ #[29, 9] ty #[.slice (some ⟨b, 4 + K, none⟩) (16 - K) (16 - K), txt s]).run Tryz.prog (w.drewN (q + 1)) = .ok (.int .i64 (S.length : Int)) ((w.drewN (q + 1)).setCells b (4 + K) (bcs S)) := fun q ty => by
          rw [← hS, ← hK]
          exact run_copy_text (w.drewN (q + 1)) 29 9 ty 5 b (4 + B.length) (16 - B.length) (16 - B.length) s Tryz.underlying29 (fun _ => Tryz.sizeOf5 _) ((h.keep (w' := w.drewN (q + 1)) rfl).some_at _ _ (by omega) (by omega)) ((h.keep (w' := w.drewN (q + 1)) rfl).free_at _ _ (by omega))
        have hheld : ∀ q, ((w.drewN (q + 1)).setCells b (4 + K) (bcs S)).cell? ⟨b, 20, none⟩ = some (.int .i64 (K : Int)) := fun q => by
          rw [out_cell (n := S.length) (bcs_len S) (by omega), ← hK]; exact (h.keep (w' := w.drewN (q + 1)) rfl).held
        have hfree : ∀ q, ((w.drewN (q + 1)).setCells b (4 + K) (bcs S)).frozen? ⟨b, 20, none⟩ = false := fun q => by
          rw [World.frozen?_setCells]; exact hl20
        have fin : ∀ q, Tb (((w.drewN (q + 1)).setCells b (4 + K) (bcs S)).setCell ⟨b, 20, none⟩ (.int .i64 ((K : Int) + (S.length : Int)))) b F I (B ++ S) := fun q => by
          rw [← hK]; exact (h.keep (w' := w.drewN (q + 1)) rfl).write S hSl'
        have gro : ∀ q, w.grownBy (((w.drewN (q + 1)).setCells b (4 + K) (bcs S)).setCell ⟨b, 20, none⟩ (.int .i64 ((K : Int) + (S.length : Int)))) (some b) := fun q =>
          tgrown_trans (tgrown_trans (tgrown_drewN w (q + 1) _) (tgrown_sets b _ _ _)) (tgrown_set _ _ _ _)
        rw [hK] at hc0 hSl' hfew
        have hsl := arr_l b K (by omega)
        clear hS hSl e1 e2 e3 hf h
        generalize bcs S = bS at *
        generalize S.length = nS at *
        go_enter Tryz.func109, Tryz.ntmps109
        go_wp2_with fail
        refine hE.mono ?_
        rintro x w1 ⟨rfl, q, rfl⟩
        clear hE
        have hcopy := hcopy q
        have hheld := hheld q
        have hfree := hfree q
        have fin := fin q
        have gro := gro q
        go_wp2_with fail
        go_region
        go_wp2_with fail
        go_ret2
        exact ⟨rfl, fin, gro⟩
end
end Go.Proofs.YtjkneekfijibiabGreatDoor

namespace Go.Proofs.YtjkneekfijibiabGreatDoor
open Go.RowKit

theorem conv_bytes (w : World) (b n c : Nat) (B : List UInt8) (hn : n ≤ B.length) (hc : ∀ k, k < n → w.cell? ⟨b, 4 + k, none⟩ = some (.int .u8 (bt B k))) :
    (convert 29 9 (.slice (some ⟨b, 4, none⟩) n c)).run Tryz.prog w = .ok (txt (B.take n)) w := by
  have h := run_convert_bytes_arg (P := Tryz.prog) w 29 5 Tryz.underlying29 Tryz.underlying5 b 4 n c ((B.take n).map fun x => (x.toNat : Int)) (by simp; omega) (fun i hi => by
    have hi' : i < B.length := by omega
    rw [hc i hi]
    congr 2
    simp [bt, List.getD, hi', List.getElem?_take_of_lt hi]) 9 Tryz.underlying9
  rw [h, show strOfNums ((B.take n).map fun x => (x.toNat : Int)) = ⟨(B.take n).toArray⟩ by apply ByteArray.ext; simp [strOfNums, Function.comp_def]]

section
variable {w : World} {b : Nat} {F I : Int} {B : List UInt8}

set_option maxHeartbeats 2000000 in
theorem Tb.take_ok (h : Tb w b F I B) (n : Nat) (h1 : 1 ≤ n) (hn : n ≤ B.length) :
    Calls Tryz.prog 142 #[tp b, .int .i64 (n : Int)] w fun x w' => x = .returned (txt (B.take n)) ∧ Tb w' b F I (B.drop n) ∧ w.grownBy w' (some b) := by
  have hfew := h.few
  have hl20 := h.live 20 (by omega)
  have hsl1 := arr_h b n (by omega)
  have hconv := conv_bytes w b n 16 B hn (fun k hk => h.byte k (by omega))
  have hc0 := h.held
  have hall := arr_all b
  have hd : (B.drop n).length = B.length - n := by simp
  have hk : Tb (w.drewN 1) b F I B := h.keep rfl
  have hcopy : ∀ ty (sl : Value), sl = (if n = 16 then .slice (some ⟨b, 4, none⟩) 0 0 else .slice (some ⟨b, 4 + n, none⟩) (B.length - n) (16 - n)) →
      (Builtin.copy_ #[29, 29] ty #[.slice (some ⟨b, 4, none⟩) 16 16, sl]).run Tryz.prog w.drew = .ok (.int .i64 ((B.length - n : Nat) : Int)) (w.drew.setCells b 4 (bcs (B.drop n))) := by
    rintro ty sl rfl
    by_cases h16 : n = 16
    · rw [if_pos h16]
      have e0 : B.drop n = [] := List.drop_eq_nil_of_le (by omega)
      have := run_copy_none (P := Tryz.prog) w.drew 29 29 ty 5 (some ⟨b, 4, none⟩) (some ⟨b, 4, none⟩) 16 16 0 0 Tryz.underlying29 (by kernel_rfl) (by rfl)
      rw [this, e0, show B.length - n = 0 by omega]; rfl
    · rw [if_neg h16]
      have := run_copy_cells (P := Tryz.prog) w.drew 29 29 ty 5 b 4 16 16 ⟨b, 4 + n, none⟩ (B.length - n) (16 - n) (bcs (B.drop n)) Tryz.underlying29 (by kernel_rfl) (by rw [bcs_len, hd]; exact (Nat.min_eq_left (by omega)).symm) (fun j v hv => by
        obtain ⟨hj, rfl⟩ := bcs_get? _ _ _ hv
        rw [Addr.add_lit, bt_drop, show 4 + n + j = 4 + (n + j) by omega]
        exact (h.keep (w' := w.drew) rfl).byte (n + j) (by omega)) (by rw [bcs_len, hd]; exact (h.keep (w' := w.drew) rfl).some_at 4 _ (by omega) (by omega)) (by rw [bcs_len, hd]; exact (h.keep (w' := w.drew) rfl).free_at 4 _ (by omega)) (bcs_one _)
      rw [this, bcs_len, hd]; rfl
  obtain ⟨D, hD⟩ : ∃ D, B.length - n = D := ⟨_, rfl⟩
  have hD16 : D < 16 := by omega
  obtain ⟨w1, hw1⟩ : ∃ w1, w.drew.setCells b 4 (bcs (B.drop n)) = w1 := ⟨_, rfl⟩
  have hc1 : w1.cell? ⟨b, 20, none⟩ = some (.int .i64 (B.length : Int)) := by
    rw [← hw1, out_cell (n := D) (by rw [bcs_len, hd, hD]) (by omega)]; exact hc0
  have hf1 : w1.frozen? ⟨b, 20, none⟩ = false := by rw [← hw1, World.frozen?_setCells]; exact hl20
  have hsl3 := arr_l b D hD16
  have hT := (h.keep (w' := w.drew) rfl).take n hn
  rw [hD, hw1] at hT
  have hclear : ∀ ty, (Builtin.clear_ #[29] ty #[.slice (some ⟨b, 4 + D, none⟩) (16 - D) (16 - D)]).run Tryz.prog (w1.setCell ⟨b, 20, none⟩ (.int .i64 (D : Int))).drew = .ok (.tuple #[]) ((w1.setCell ⟨b, 20, none⟩ (.int .i64 (D : Int))).drew.setCells b (4 + D) (List.replicate (16 - D) (.int .u8 0))) := fun ty =>
    Lib.run_clear_slice _ 29 5 ty (.int .u8 0) Tryz.underlying29 (fun _ => Tryz.zeroValue5 _) rfl rfl b (4 + D) (16 - D) (16 - D) (by omega) (fun j hj => by
      show ((w1.setCell ⟨b, 20, none⟩ (.int .i64 (D : Int))).cell? ⟨b, 4 + D + j, none⟩).isSome = true
      rw [World.cell?_setCell_other _ _ _ _ (off_ne (by omega)), ← hw1, out_cell (n := D) (by rw [bcs_len, hd, hD]) (by omega)]
      exact (h.keep (w' := w.drew) rfl).some_at 4 16 (by omega) (by omega) (D + j) (by omega) |> fun x => by rw [show 4 + D + j = 4 + (D + j) by omega]; exact x) (fun j hj => by
      show (w1.setCell ⟨b, 20, none⟩ (.int .i64 (D : Int))).frozen? ⟨b, 4 + D + j, none⟩ = false
      rw [World.frozen?_setCell, ← hw1, World.frozen?_setCells]; exact h.live (4 + D + j) (by omega))
  have gro : w.grownBy (((w1.setCell ⟨b, 20, none⟩ (.int .i64 (D : Int))).drew).setCells b (4 + D) (List.replicate (16 - D) (.int .u8 0))) (some b) := by
    rw [← hw1]
    exact tgrown_trans (tgrown_drew (tgrown_trans (tgrown_trans (tgrown_drew (World.grownBy.refl w _)) (tgrown_sets b _ 4 _)) (tgrown_set _ _ _ _))) (tgrown_sets b _ _ _)
  have hT' : Tb ((w1.setCell ⟨b, 20, none⟩ (.int .i64 (D : Int))).drew.setCells b (4 + D) (List.replicate (16 - D) (.int .u8 0))) b F I (B.drop n) := hT.keep (by
    rw [show ((w1.setCell ⟨b, 20, none⟩ (.int .i64 (D : Int))).drew.setCells b (4 + D) (List.replicate (16 - D) (.int .u8 0))) = ((w1.setCell ⟨b, 20, none⟩ (.int .i64 (D : Int))).setCells b (4 + D) (List.replicate (16 - D) (.int .u8 0))).drew from (drew_cells b _ _ _).symm]
    rfl)
  have hc3 : (w1.setCell ⟨b, 20, none⟩ (.int .i64 (D : Int))).cell? ⟨b, 20, none⟩ = some (.int .i64 (D : Int)) := World.cell?_setCell_same _ _ _ hc1
  rw [hD, hw1] at hcopy
  obtain ⟨K, hK⟩ : ∃ K, B.length = K := ⟨_, rfl⟩
  rw [hK] at hc0 hc1 hn hfew hD
  generalize B.take n = T at *
  generalize B.drop n = E at *
  generalize List.replicate (16 - D) (Value.int .u8 0) = zs at *
  by_cases h16 : n = 16
  · subst h16
    have hslE := arr_end b
    have hcp := fun ty => hcopy ty _ (if_pos rfl).symm
    obtain rfl : K = 16 := by omega
    clear hcopy hT h hk
    go_enter Tryz.func142, Tryz.ntmps142
    go_wp2_with fail
    go_region
    go_wp2_with fail
    go_region
    go_wp2_with fail
    go_ret
    exact ⟨rfl, hT', gro⟩
  · have hsl2 := arr_lh b n K (by omega) hn (by omega)
    simp only [hD] at hsl2
    have hcp := fun ty => hcopy ty _ (if_neg h16).symm
    clear hcopy hT h hk
    go_enter Tryz.func142, Tryz.ntmps142
    go_wp2_with fail
    go_region
    go_wp2_with fail
    go_region
    go_wp2_with fail
    go_ret
    exact ⟨rfl, hT', gro⟩

set_option maxHeartbeats 2000000 in
theorem Tb.read_ok (h : Tb w b F I B) (n : Int) (hI : 0 ≤ I) :
    Calls Tryz.prog 110 #[tp b, .int .i64 n] w fun x w' => x = .returned (.tuple #[txt (B.take n.toNat), erT (rdE I B n)]) ∧ Tb w' b F I (B.drop n.toNat) ∧ w.grownBy w' (some b) := by
  have hE := h.ends
  have hL := h.len
  have hc0 := h.held
  have hfew := h.few
  by_cases h0 : n < 0
  · have e1 : rdE I B n = 2 := by unfold rdE; rw [if_pos h0]
    have e2 : n.toNat = 0 := by omega
    rw [e1, e2, List.take_zero, List.drop_zero]
    go_enter Tryz.func110, Tryz.ntmps110
    go_wp2_with fail
    go_ret2
    exact ⟨rfl, h, World.grownBy.refl _ _⟩
  · by_cases hz : n = 0
    · subst hz
      go_enter Tryz.func110, Tryz.ntmps110
      go_wp2_with fail
      go_ret2
      exact ⟨rfl, h, World.grownBy.refl _ _⟩
    · have hnq : (n == 0) = false := by simp [hz]
      by_cases hB : B = []
      · subst hB
        by_cases hI0 : 0 < I
        · have e1 : rdE I [] n = 8 := by unfold rdE; rw [if_neg h0, if_neg hz, if_pos ⟨rfl, hI0⟩]
          rw [e1, List.take_nil, List.drop_nil]
          go_enter Tryz.func110, Tryz.ntmps110
          go_wp2_with fail
          refine hL.mono ?_
          rintro x w1 ⟨rfl, hw⟩
          subst w1
          go_wp2_with fail
          refine hE.mono ?_
          rintro x w1 ⟨rfl, q, rfl⟩
          go_wp2_with fail
          go_ret2
          exact ⟨rfl, h.keep rfl, tgrown_drewN _ _ _⟩
        · have e1 : rdE I [] n = 0 := by unfold rdE; rw [if_neg h0, if_neg hz, if_neg (fun e => hI0 e.2)]
          rw [e1, List.take_nil, List.drop_nil]
          go_enter Tryz.func110, Tryz.ntmps110
          go_wp2_with fail
          refine hL.mono ?_
          rintro x w1 ⟨rfl, hw⟩
          subst w1
          go_wp2_with fail
          refine hE.mono ?_
          rintro x w1 ⟨rfl, q, rfl⟩
          go_wp2_with fail
          go_ret2
          exact ⟨rfl, h.keep rfl, tgrown_drewN _ _ _⟩
      · have hBl : 0 < B.length := by cases B with
          | nil => exact absurd rfl hB
          | cons _ _ => simp
        have e1 : rdE I B n = 0 := by unfold rdE; rw [if_neg h0, if_neg hz, if_neg (fun e => hB e.1)]
        have e2 : B.take n.toNat = B.take (min n.toNat B.length) := by
          by_cases hm : n.toNat ≤ B.length
          · rw [Nat.min_eq_left hm]
          · rw [Nat.min_eq_right (by omega), List.take_of_length_le (by omega), List.take_of_length_le (by omega)]
        have e3 : B.drop n.toNat = B.drop (min n.toNat B.length) := by
          by_cases hm : n.toNat ≤ B.length
          · rw [Nat.min_eq_left hm]
          · rw [Nat.min_eq_right (by omega), List.drop_eq_nil_of_le (by omega), List.drop_eq_nil_of_le (by omega)]
        obtain ⟨m, hm⟩ : ∃ m, min n.toNat B.length = m := ⟨_, rfl⟩
        rw [hm] at e2 e3
        have hT := h.take_ok m (by omega) (by omega)
        rw [e1, e2, e3]
        clear e1 e2 e3
        obtain ⟨K, hK⟩ : ∃ K, B.length = K := ⟨_, rfl⟩
        rw [hK] at hc0 hfew hBl hm hL
        have hKq : ((K : Int) == 0) = false := by simp; omega
        generalize B.take m = T at *
        generalize B.drop m = E at *
        clear h hB hK
        by_cases hnm : n ≤ (K : Int)
        · have hm' : (m : Int) = n := by omega
          rw [hm'] at hT
          go_enter Tryz.func110, Tryz.ntmps110
          go_wp2_with fail
          refine hL.mono ?_
          rintro x w1 ⟨rfl, hw⟩
          subst w1
          go_wp2_with fail
          refine hT.mono ?_
          rintro x w1 ⟨rfl, hT', g⟩
          go_wp2_with fail
          go_ret2
          exact ⟨rfl, hT', g⟩
        · have hm' : m = K := by omega
          rw [hm'] at hT
          go_enter Tryz.func110, Tryz.ntmps110
          go_wp2_with fail
          refine hL.mono ?_
          rintro x w1 ⟨rfl, hw⟩
          subst w1
          go_wp2_with fail
          refine hT.mono ?_
          rintro x w1 ⟨rfl, hT', g⟩
          go_wp2_with fail
          go_ret2
          exact ⟨rfl, hT', g⟩
end
end Go.Proofs.YtjkneekfijibiabGreatDoor

namespace Go.Proofs.YtjkneekfijibiabGreatDoor
open Go.RowKit Go.Maps

section
variable {w w' w2 : World} {f b n : Nat} {D D' : DS} {g g' : QG} {M N N' : Ns} {d k : Int} {e : En}
/-- An ENTRY goes. -/
theorem QF.gone (h : QF w f D g n) (hk : g.K k = some d) {n' : Nat} (pm : PMap w' g.gO n' (fun i => if i = k then none else (g.K i).map (fun d => wp (g.B d)))) (hg : w.grownBy w' (some g.gO)) :
    QF w' f { D with E := fun i => if i = d then none else D.E i, R := fun i => if i = d then none else D.R i } { g with K := fun i => if i = k then none else g.K i } n' := by
  have hh : ∀ {i t}, g.kap i = some t → t ≠ .mp → w'.heap[i]? = w.heap[i]? := fun {i t} ei ht => hg.block i (h.lt i (by rw [ei]; rfl)) (fun x => tag_ne ei h.tm ht (Option.some.inj x))
  obtain ⟨O, p, hO⟩ := h.tree
  have hpm : PMap w' g.gO n' (fun i => (if i = k then none else g.K i).map (fun d => wp (g.B d))) := by
    have e2 : (fun i => (if i = k then none else g.K i).map (fun d => wp (g.B d))) = fun i => if i = k then none else (g.K i).map (fun d => wp (g.B d)) := by
      funext i; split <;> rfl
    rw [e2]; exact pm
  refine ⟨(hh h.tf (by simp)).trans h.head, ⟨O, p.keep (fun i hi => hh (hO i hi) (by simp)) hg.size, hO⟩, hpm, fun x ex hx => ?_, fun i x hx => ?_, fun x hx => ?_, fun i j x hi hj => ?_, fun p x hp => ?_, h.tf, h.tm, fun i hi => Nat.lt_of_lt_of_le (h.lt i hi) hg.size⟩
  · have hx' : (if x = d then none else D.E x) = some ex := hx
    by_cases e1 : x = d
    · rw [if_pos e1] at hx'; cases hx'
    · rw [if_neg e1] at hx'
      obtain ⟨c1, a1, a2, a3⟩ := h.ent x ex hx'
      exact ⟨c1, (if_neg e1).trans a1, (hh a3 (by simp)).trans a2, a3⟩
  · have hx' : (if i = k then none else g.K i) = some x := hx
    by_cases e1 : i = k
    · rw [if_pos e1] at hx'; cases hx'
    · rw [if_neg e1] at hx'
      obtain ⟨a, c⟩ := h.key i x hx'
      refine ⟨?_, c⟩
      show (if x = d then none else D.E x).isSome = true
      rw [if_neg (fun e9 => e1 (h.inj i k d (by rw [← e9]; exact hx') hk))]
      exact a
  · have hx' : (if x = d then none else D.E x).isSome = true := hx
    by_cases e1 : x = d
    · rw [if_pos e1] at hx'; cases hx'
    · rw [if_neg e1] at hx'
      obtain ⟨i, hi⟩ := h.has x hx'
      refine ⟨i, ?_⟩
      show (if i = k then none else g.K i) = some x
      rw [if_neg (fun e9 => e1 (by rw [e9, hk] at hi; exact (Option.some.inj hi).symm))]
      exact hi
  · have hi' : (if i = k then none else g.K i) = some x := hi
    have hj' : (if j = k then none else g.K j) = some x := hj
    by_cases e1 : i = k
    · rw [if_pos e1] at hi'; cases hi'
    · by_cases e2 : j = k
      · rw [if_pos e2] at hj'; cases hj'
      · rw [if_neg e1] at hi'
        rw [if_neg e2] at hj'
        exact h.inj i j x hi' hj'
  · obtain ⟨a1, a2⟩ := h.pipe p x hp
    exact ⟨a1.keep (hh a2 (by simp)), a2⟩
/-- The tree turns. -/
theorem QF.turn (h : QF w f D g n) {O O' : Nat → Prop} {T' : Wd} (hO : ∀ i, O i → g.kap i = some .tree) (p : PT w' g.r T' O') (st : Stp w w' O O') :
    ∃ g', QF w' f { D with T := T' } g' n ∧ (∀ i, i < w.heap.size → g'.kap i = g.kap i) ∧ g'.K = g.K ∧ g'.r = g.r ∧ g'.B = g.B := by
  classical
  have hh : ∀ {i t}, g.kap i = some t → t ≠ .tree → w'.heap[i]? = w.heap[i]? := fun {i t} ei ht => st.wt.block i (h.lt i (by rw [ei]; rfl)) (fun o => tag_ne ei (hO i o) ht rfl)
  have hlt : ∀ {i t}, g.kap i = some t → (if i < w.heap.size then g.kap i else if O' i then some Tag.tree else none) = some t := fun {i t} ei => by
    rw [if_pos (h.lt i (by rw [ei]; rfl))]; exact ei
  refine ⟨{ g with kap := fun i => if i < w.heap.size then g.kap i else if O' i then some .tree else none }, ⟨(hh h.tf (by simp)).trans h.head, ⟨O', p, fun i hi => ?_⟩, h.map.keep (hh h.tm (by simp)), fun x ex hx => ?_, h.key, h.has, h.inj, fun p x hp => ?_, hlt h.tf, hlt h.tm, fun i hi => ?_⟩, fun i hi => if_pos hi, rfl, rfl, rfl⟩
  · show (if i < w.heap.size then g.kap i else if O' i then some Tag.tree else none) = some Tag.tree
    rcases st.own i hi with o | o
    · exact hlt (hO i o)
    · rw [if_neg (by omega), if_pos hi]
  · obtain ⟨c1, a1, a2, a3⟩ := h.ent x ex hx
    exact ⟨c1, a1, (hh a3 (by simp)).trans a2, hlt a3⟩
  · obtain ⟨a1, a2⟩ := h.pipe p x hp
    exact ⟨a1.keep (hh a2 (by simp)), hlt a2⟩
  · have hi' : (if i < w.heap.size then g.kap i else if O' i then some Tag.tree else none).isSome = true := hi
    by_cases e1 : i < w.heap.size
    · exact Nat.lt_of_lt_of_le e1 st.wt.size
    · rw [if_neg e1] at hi'
      by_cases e2 : O' i
      · exact p.lt i e2
      · rw [if_neg e2] at hi'; cases hi'
/-- A pipe turns. -/
theorem QF.piped (h : QF w f D g n) {p : Int} {x : Pi} (hp : D.P p = some x) {x' : Pi} (ht : Tb w' (g.Q p) x'.2.1 x'.2.2 x'.1) (hg : w.grownBy w' (some (g.Q p))) :
    QF w' f { D with P := fun i => if i = p then some x' else D.P i } g n := by
  obtain ⟨h1, h2⟩ := h.pipe p x hp
  have hh : ∀ {i t}, g.kap i = some t → t ≠ .pip p → w'.heap[i]? = w.heap[i]? := fun {i t} ei ht => hg.block i (h.lt i (by rw [ei]; rfl)) (fun x => tag_ne ei h2 ht (Option.some.inj x))
  obtain ⟨O, q, hO⟩ := h.tree
  refine ⟨(hh h.tf (by simp)).trans h.head, ⟨O, q.keep (fun i hi => hh (hO i hi) (by simp)) hg.size, hO⟩, h.map.keep (hh h.tm (by simp)), fun y ey hy => ?_, h.key, h.has, h.inj, fun q y hq => ?_, h.tf, h.tm, fun i hi => Nat.lt_of_lt_of_le (h.lt i hi) hg.size⟩
  · obtain ⟨c1, a1, a2, a3⟩ := h.ent y ey hy
    exact ⟨c1, a1, (hh a3 (by simp)).trans a2, a3⟩
  · have hq' : (if q = p then some x' else D.P q) = some y := hq
    by_cases e1 : q = p
    · subst e1
      rw [if_pos rfl] at hq'
      obtain rfl := Option.some.inj hq'
      exact ⟨ht, h2⟩
    · rw [if_neg e1] at hq'
      obtain ⟨a1, a2⟩ := h.pipe q y hq'
      exact ⟨a1.keep (hh a2 (fun z => e1 (by injection z))), a2⟩
/-- A new pipe. -/
theorem QF.newPipe (h : QF w f D g n) {q : Nat} {p : Int} (hq : w.heap.size ≤ q) (hq' : q < w'.heap.size) (hb : Below w.heap.size w w') (hp : D.P p = none) (hE : ∀ d e, D.E d = some e → e.pipe ≠ p ∨ e.kind = 1) {x : Pi} (ht : Tb w' q x.2.1 x.2.2 x.1) (z : Int) :
    ∃ g', QF w' f { D with P := fun i => if i = p then some x else D.P i, nx := z } g' n ∧ (∀ i, i < w.heap.size → g'.kap i = g.kap i) ∧ g'.K = g.K ∧ g'.r = g.r ∧ g'.Q p = q := by
  have h' := h.below hb
  have hlt : ∀ {i t}, g.kap i = some t → (if i = q then some (Tag.pip p) else g.kap i) = some t := fun {i t} ei => by
    have := h.lt i (by rw [ei]; rfl)
    rw [if_neg (by omega)]; exact ei
  obtain ⟨O, o1, hO⟩ := h'.tree
  refine ⟨{ g with Q := fun i => if i = p then q else g.Q i, kap := fun i => if i = q then some (.pip p) else g.kap i }, ⟨h'.head, ⟨O, o1, fun i hi => hlt (hO i hi)⟩, h'.map, fun y ey hy => ?_, h.key, h.has, h.inj, fun i y hi => ?_, hlt h.tf, hlt h.tm, fun i hi => ?_⟩, fun i hi => if_neg (by omega), rfl, rfl, if_pos rfl⟩
  · obtain ⟨c1, a1, a2, a3⟩ := h'.ent y ey hy
    refine ⟨c1, a1, ?_, hlt a3⟩
    have hpv : pv { g with Q := fun i => if i = p then q else g.Q i, kap := fun i => if i = q then some (.pip p) else g.kap i } ey = pv g ey := by
      unfold pv
      rcases hE y ey hy with e1 | e1
      · simp only [if_neg e1]
      · rw [if_pos e1, if_pos e1]
    show w'.heap[g.B y]? = _
    rw [a2, ecells, ecells, hpv]
  · have hi' : (if i = p then some x else D.P i) = some y := hi
    by_cases e1 : i = p
    · subst e1
      rw [if_pos rfl] at hi'
      obtain rfl := Option.some.inj hi'
      have eq : (if i = i then q else g.Q i) = q := if_pos rfl
      show Tb w' (if i = i then q else g.Q i) x.2.1 x.2.2 x.1 ∧ (if (if i = i then q else g.Q i) = q then some (Tag.pip i) else g.kap (if i = i then q else g.Q i)) = some (Tag.pip i)
      rw [eq, if_pos rfl]
      exact ⟨ht, rfl⟩
    · rw [if_neg e1] at hi'
      obtain ⟨a1, a2⟩ := h'.pipe i y hi'
      show Tb w' (if i = p then q else g.Q i) y.2.1 y.2.2 y.1 ∧ (if (if i = p then q else g.Q i) = q then some (Tag.pip p) else g.kap (if i = p then q else g.Q i)) = some (Tag.pip i)
      rw [if_neg e1]
      exact ⟨a1, hlt a2⟩
  · have hi' : (if i = q then some (Tag.pip p) else g.kap i).isSome = true := hi
    by_cases e1 : i = q
    · omega
    · rw [if_neg e1] at hi'
      exact h'.lt i hi'
/-- A new ENTRY: nobody has it yet. -/
def newE (D : DS) (e : En) : DS := { D with E := fun i => if i = D.nx + 1 then some e else D.E i, R := fun i => if i = D.nx + 1 then some 0 else D.R i, nx := D.nx + 1 }
theorem QF.newEnt (h : QF w f D g n) {q : Nat} (hq : w.heap.size ≤ q) (hb : Below w.heap.size w w') (hE : D.E (D.nx + 1) = none) (hk : g.K k = none) (hk0 : 0 < k) (hk1 : k < 100000) (hw : w'.heap[q]? = some (.cells (ecells g e 0) 180)) (pm : PMap w2 g.gO (n + 1) (fun i => if i = k then some (wp q) else (g.K i).map (fun d => wp (g.B d)))) (hg : w'.grownBy w2 (some g.gO)) :
    ∃ g', QF w2 f (newE D e) g' (n + 1) ∧ (∀ i, i < w.heap.size → g'.kap i = g.kap i) ∧ (g'.K = fun i => if i = k then some (D.nx + 1) else g.K i) ∧ g'.r = g.r ∧ g'.B (D.nx + 1) = q ∧ g'.gO = g.gO ∧ g'.Q = g.Q := by
  have h' := h.below hb
  have hql : q < w'.heap.size := (Array.getElem?_eq_some_iff.1 hw).1
  have hlt : ∀ {i t}, g.kap i = some t → (if i = q then some (Tag.ent (D.nx + 1)) else g.kap i) = some t := fun {i t} ei => by
    have := h.lt i (by rw [ei]; rfl)
    rw [if_neg (by omega)]; exact ei
  have hh : ∀ {i t}, g.kap i = some t → t ≠ .mp → w2.heap[i]? = w'.heap[i]? := fun {i t} ei ht => hg.block i (h'.lt i (by rw [ei]; rfl)) (fun x => tag_ne ei h.tm ht (Option.some.inj x))
  have hqm : q ≠ g.gO := fun e => by have := h.lt g.gO (by rw [h.tm]; rfl); omega
  obtain ⟨O, o1, hO⟩ := h'.tree
  have hKE : ∀ i x, g.K i = some x → x ≠ D.nx + 1 := fun i x hx e => by
    have := (h.key i x hx).1
    rw [e, hE] at this; cases this
  have hpm : PMap w2 g.gO (n + 1) (fun i => (if i = k then some (D.nx + 1) else g.K i).map (fun d => wp (if d = D.nx + 1 then q else g.B d))) := by
    have e2 : (fun i => (if i = k then some (D.nx + 1) else g.K i).map (fun d => wp (if d = D.nx + 1 then q else g.B d))) = fun i => if i = k then some (wp q) else (g.K i).map (fun d => wp (g.B d)) := by
      funext i
      by_cases ei : i = k
      · rw [if_pos ei, if_pos ei]; simp
      · rw [if_neg ei, if_neg ei]
        cases hK : g.K i with
        | none => rfl
        | some x => simp [hKE i x hK]
    rw [e2]; exact pm
  refine ⟨{ g with K := fun i => if i = k then some (D.nx + 1) else g.K i, B := fun d => if d = D.nx + 1 then q else g.B d, kap := fun i => if i = q then some (.ent (D.nx + 1)) else g.kap i }, ⟨(hh h.tf (by simp)).trans h'.head, ⟨O, o1.keep (fun i hi => hh (hO i hi) (by simp)) hg.size, fun i hi => hlt (hO i hi)⟩, hpm, fun y ey hy => ?_, fun i y hi => ?_, fun y hy => ?_, fun i j y hi hj => ?_, fun p x hp => ?_, hlt h.tf, hlt h.tm, fun i hi => ?_⟩, fun i hi => if_neg (by omega), rfl, rfl, if_pos rfl, rfl, rfl⟩
  · have hy' : (if y = D.nx + 1 then some e else D.E y) = some ey := hy
    by_cases e1 : y = D.nx + 1
    · rw [if_pos e1] at hy'
      obtain rfl := Option.some.inj hy'
      refine ⟨0, if_pos e1, ?_, ?_⟩
      · show w2.heap[if y = D.nx + 1 then q else g.B y]? = _
        rw [if_pos e1, hg.block q hql (fun x => hqm (Option.some.inj x)), hw]
        rfl
      · show (if (if y = D.nx + 1 then q else g.B y) = q then some (Tag.ent (D.nx + 1)) else g.kap (if y = D.nx + 1 then q else g.B y)) = some (Tag.ent y)
        rw [if_pos e1, if_pos rfl, e1]
    · rw [if_neg e1] at hy'
      obtain ⟨c1, a1, a2, a3⟩ := h'.ent y ey hy'
      refine ⟨c1, (if_neg e1).trans a1, ?_, ?_⟩
      · show w2.heap[if y = D.nx + 1 then q else g.B y]? = _
        rw [if_neg e1, hh a3 (by simp), a2]
        rfl
      · show (if (if y = D.nx + 1 then q else g.B y) = q then some (Tag.ent (D.nx + 1)) else g.kap (if y = D.nx + 1 then q else g.B y)) = some (Tag.ent y)
        rw [if_neg e1]
        exact hlt a3
  · have hi' : (if i = k then some (D.nx + 1) else g.K i) = some y := hi
    show (if y = D.nx + 1 then some e else D.E y).isSome = true ∧ 0 < i ∧ i < 100000
    by_cases e1 : i = k
    · rw [if_pos e1] at hi'
      obtain rfl := Option.some.inj hi'
      rw [if_pos rfl, e1]
      exact ⟨rfl, hk0, hk1⟩
    · rw [if_neg e1] at hi'
      rw [if_neg (hKE i y hi')]
      exact h.key i y hi'
  · have hy' : (if y = D.nx + 1 then some e else D.E y).isSome = true := hy
    by_cases e1 : y = D.nx + 1
    · exact ⟨k, by show (if k = k then some (D.nx + 1) else g.K k) = some y; rw [if_pos rfl, e1]⟩
    · rw [if_neg e1] at hy'
      obtain ⟨i, hi⟩ := h.has y hy'
      refine ⟨i, ?_⟩
      show (if i = k then some (D.nx + 1) else g.K i) = some y
      rw [if_neg (fun e9 => by rw [e9, hk] at hi; cases hi)]
      exact hi
  · have hi' : (if i = k then some (D.nx + 1) else g.K i) = some y := hi
    have hj' : (if j = k then some (D.nx + 1) else g.K j) = some y := hj
    by_cases e1 : i = k
    · by_cases e2 : j = k
      · rw [e1, e2]
      · rw [if_pos e1] at hi'
        rw [if_neg e2] at hj'
        exact absurd (Option.some.inj hi').symm (hKE j y hj')
    · by_cases e2 : j = k
      · rw [if_neg e1] at hi'
        rw [if_pos e2] at hj'
        exact absurd (Option.some.inj hj').symm (hKE i y hi')
      · rw [if_neg e1] at hi'
        rw [if_neg e2] at hj'
        exact h.inj i j y hi' hj'
  · obtain ⟨a1, a2⟩ := h'.pipe p x hp
    exact ⟨a1.keep (hh a2 (by simp)), hlt a2⟩
  · have hi' : (if i = q then some (Tag.ent (D.nx + 1)) else g.kap i).isSome = true := hi
    by_cases e1 : i = q
    · have := hg.size; omega
    · rw [if_neg e1] at hi'
      exact Nat.lt_of_lt_of_le (h'.lt i hi') hg.size
end
end Go.Proofs.YtjkneekfijibiabGreatDoor

namespace Go.Proofs.YtjkneekfijibiabGreatDoor
open Go.RowKit Go.Maps

theorem alike_ns : ∀ {M N : Ns}, M.length = N.length → (∀ i (h : i < M.length) (h' : i < N.length), (0 < M[i].1 ↔ 0 < N[i].1) ∧ (M[i].1 = 0 ↔ N[i].1 = 0)) → usedN M = usedN N ∧ leastN M = leastN N
  | [], [], _, _ => ⟨rfl, rfl⟩
  | [], _ :: _, h, _ => by simp at h
  | _ :: _, [], h, _ => by simp at h
  | x :: M, y :: N, h, k => by
    obtain ⟨h1, h2⟩ := alike_ns (M := M) (N := N) (by simpa using h) (fun i hi hi' => k (i + 1) (by simpa using hi) (by simpa using hi'))
    obtain ⟨k1, k2⟩ := k 0 (by simp) (by simp)
    simp only [List.getElem_cons_zero] at k1 k2
    constructor
    · unfold usedN at h1 ⊢
      by_cases e : 0 < x.1
      · rw [List.filter_cons_of_pos (by simpa using e), List.filter_cons_of_pos (by simpa using k1.1 e), List.length_cons, List.length_cons, h1]
      · rw [List.filter_cons_of_neg (by simpa using e), List.filter_cons_of_neg (by simpa using fun z => e (k1.2 z)), h1]
    · rw [leastN, leastN, h2]
      by_cases e : x.1 = 0
      · rw [if_pos e, if_pos (k2.1 e)]
      · rw [if_neg e, if_neg (fun z => e (k2.2 z))]
section
variable {w w' w2 : World} {f b n : Nat} {D D' : DS} {g g' : QG} {M N N' : Ns} {d k : Int} {e : En}
theorem QTb.pos (t : QTb w b g M N) (h : QF w f D g n) (i : Nat) (h1 : i < M.length) (h2 : i < N.length) : (0 < M[i].1 ↔ 0 < N[i].1) ∧ (M[i].1 = 0 ↔ N[i].1 = 0) := by
  rcases (t.rel i h1 h2).2 with ⟨a, c⟩ | ⟨a, c⟩
  · rw [a, c]; simp
  · have := (h.key _ _ c).2.1
    omega
theorem QTb.nnAt (t : QTb w b g M N) (i : Nat) (hi : i < N.length) : 0 ≤ N[i].1 := by
  rcases (t.rel i (by rw [t.tab.len]; have := t.len; omega) hi).2 with ⟨_, c⟩ | ⟨c, _⟩
  · omega
  · omega
theorem QTb.eqs (t : QTb w b g M N) (h : QF w f D g n) : usedN M = usedN N ∧ leastN M = leastN N := alike_ns (t.tab.len.trans t.len.symm) (t.pos h)
theorem QTb.hasEq (t : QTb w b g M N) (h : QF w f D g n) (x : Int) : hasN M x = hasN N x := by
  by_cases hx : 0 ≤ x ∧ x ≤ 7
  · obtain ⟨i, rfl⟩ : ∃ i : Nat, x = i := ⟨x.toNat, by omega⟩
    have h1 : i < M.length := by have := t.tab.len; omega
    have h2 : i < N.length := by have := t.len; omega
    have hp := (t.pos h i h1 h2).1
    unfold hasN
    rw [getD_in h1, getD_in h2]
    by_cases e : 0 < M[i].1
    · simp [e, hp.1 e]
    · simp [e, show ¬ 0 < N[i].1 from fun z => e (hp.2 z)]
  · unfold hasN
    have hb : (decide (0 ≤ x) && decide (x ≤ 7)) = false := by
      simp only [Bool.and_eq_false_iff, decide_eq_false_iff_not]; omega
    rw [hb]; rfl
theorem QTb.keyOf (t : QTb w b g M N) {i : Nat} (h1 : i < M.length) (h2 : i < N.length) (h0 : 0 < N[i].1) : g.K M[i].1 = some N[i].1 := by
  rcases (t.rel i h1 h2).2 with ⟨a, c⟩ | ⟨a, c⟩
  · omega
  · exact c
theorem QTb.used_ok (t : QTb w b g M N) (h : QF w f D g n) : Calls Tryz.prog 32 #[wp b] w fun e w' => e = .returned (.int .i64 (usedN N : Int)) ∧ Below w.heap.size w w' := by
  rw [← (t.eqs h).1]; exact t.tab.used_ok
theorem QTb.has_ok (t : QTb w b g M N) (h : QF w f D g n) (x : Int) : Calls Tryz.prog 34 #[wp f, wp b, .int .i64 x] w fun e w' => e = .returned (.bool (hasN N x)) ∧ Below w.heap.size w w' := by
  rw [← t.hasEq h x]; exact t.tab.has_ok f x

theorem fil_ne (b : Nat) (w : World) : (binOp BinOp.eql 60 (wp b) (.pointer none)).run Tryz.prog w = .ok (.bool false) w := by kernel_rfl
theorem ent_ne (b : Nat) (w : World) : (binOp BinOp.eql 149 (wp b) (.pointer none)).run Tryz.prog w = .ok (.bool false) w := by kernel_rfl
theorem ent_nil (w : World) : (binOp BinOp.eql 149 (.pointer none) (.pointer none)).run Tryz.prog w = .ok (.bool true) w := by kernel_rfl

theorem num_field (X : Int) (Y : Bool) (w : World) : (Instr.field 66 (.agg #[.int .i64 X, .bool Y]) 0).run Tryz.prog w = .ok (.int .i64 X) w := by kernel_rfl
theorem num_mark (X : Int) (Y : Bool) (w : World) : (Instr.field 66 (.agg #[.int .i64 X, .bool Y]) 1).run Tryz.prog w = .ok (.bool Y) w := by kernel_rfl
set_option maxRecDepth 100000 in
set_option maxHeartbeats 2000000 in
theorem QF.find_gen (h : QF w f D g n) (t : QT w b M) (x : Int) (v : Value) (hv : gv g (atM M x).1 = v) (hat : 0 ≤ (atM M x).1 ∧ (atM M x).1 < 100000) (z : Bool) (hz : (∃ q, v = wp q ∧ z = false) ∨ (v = .pointer none ∧ z = true)) :
    Calls Tryz.prog 77 #[wp f, wp b, .int .i64 x] w fun e w' => e = .returned (.tuple (if z = true then #[.pointer none, uer 7] else #[v, .nilIface])) ∧ Below w.heap.size w w' := by
  have hA : ∀ V, Below w.heap.size w V → Calls Tryz.prog 93 #[wp b, .int .i64 x] V fun e w' => e = .returned (nuv (atM M x)) ∧ Below w.heap.size w w' ∧ w'.cell? ⟨f, 1, none⟩ = some (.map (some g.gO)) ∧ (Instr.lookup 142 (.map (some g.gO)) (.int .i64 (atM M x).1) false).run Tryz.prog w' = .ok v w' := fun V hV => by
    refine ((t.below hV).at_ok x).mono ?_
    rintro e w1 ⟨rfl, b1⟩
    have b2 := hV.trans (b1.mono hV.size)
    refine ⟨rfl, b2, (h.below b2).cells.2, ?_⟩
    rw [(h.below b2).look hat.1 hat.2, hv]
  have c1 := h.cells.2
  have h9 := fil_ne f
  generalize atM M x = y at *
  obtain ⟨X, Y⟩ := y
  simp only [nuv] at hA
  have hfl := num_field X Y
  have HZ : Aside ((∃ q, v = wp q ∧ z = false) ∨ (v = .pointer none ∧ z = true)) := hz
  have hen := ent_ne
  have hel := ent_nil
  clear h t hv hat hz
  go_enter Tryz.func77, Tryz.ntmps77
  go_upto_region 3 with fail
  go_region_held3 (fun w' => w'.cell? ⟨f, 1, none⟩ = some (.map (some g.gO))) (first | exact c1 | exact c2) (first
    | (go_at_call 93; refine (hA _ ⟨by rfl, by rfl, by rfl, by exact Nat.le_refl _, fun _ _ => by rfl⟩).mono ?_; rintro e w2 ⟨rfl, b2, c2, hlk⟩))
  all_goals
    rcases HZ.out with ⟨q, rfl, rfl⟩ | ⟨rfl, rfl⟩
    · clear HZ
      go_wp2_with fail
      go_ret2
      exact ⟨rfl, b2⟩
    · clear HZ
      go_wp2_with fail
      go_ret2
      exact ⟨rfl, b2⟩
theorem QF.find_yes (h : QF w f D g n) (t : QTb w b g M N) {i : Nat} (hi : i < 8) (hiL : i < N.length) (h0 : 0 < N[i].1) :
    Calls Tryz.prog 77 #[wp f, wp b, .int .i64 (i : Int)] w fun e w' => e = .returned (.tuple #[wp (g.B N[i].1), .nilIface]) ∧ Below w.heap.size w w' := by
  have hM : i < M.length := by have := t.tab.len; omega
  have hk := t.keyOf hM hiL h0
  have hat := atM_in t.tab.len hi
  exact h.find_gen t.tab i _ (by rw [hat, gv_some hk]) (by rw [hat]; exact ⟨(t.tab.nn hM).1, (t.tab.nn hM).2.1⟩) false (.inl ⟨_, rfl, rfl⟩)
theorem QF.find_no (h : QF w f D g n) (t : QTb w b g M N) (x : Int) (hx : hasN N x = false) :
    Calls Tryz.prog 77 #[wp f, wp b, .int .i64 x] w fun e w' => e = .returned (.tuple #[.pointer none, uer 7]) ∧ Below w.heap.size w w' := by
  have h1 := hasM t.tab.len (fun x hx => (t.tab.pos x hx).1) x
  rw [t.hasEq h x, hx] at h1
  have h2 : (atM M x).1 = 0 := by
    by_cases e : (atM M x).1 = 0
    · exact e
    · simp [e] at h1
  exact h.find_gen t.tab x _ (by rw [h2, gv_none h.k0]) (by rw [h2]; omega) true (.inr ⟨rfl, rfl⟩)
end
end Go.Proofs.YtjkneekfijibiabGreatDoor

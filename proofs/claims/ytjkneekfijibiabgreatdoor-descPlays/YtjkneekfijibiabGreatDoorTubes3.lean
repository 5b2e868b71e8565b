/- What the functions of package pipe do to a world, each by its Go text. -/
import Derived.Test.YtjkneekfijibiabGreatDoorTubesS
import Derived.Test.YtjkneekfijibiabGreatDoorRows
import Derived.WalkLawsBesides
import Derived.Outline
import Derived.RegionTactic
import Derived.ChangeAlike
import Derived.BigQuiet
import Derived.Deep.QuietTactic
namespace Go.Proofs.YtjkneekfijibiabGreatDoor
open Go.RowKit
/-- Slices of the pipe's own array. -/
theorem arr_l (b K : Nat) (hK : K < 16) (w : World) : (Instr.sliceAt 215 (.pointer (some ⟨b, 4, none⟩)) (some (.int .i64 (K : Int))) none none).run Tryz.prog w = .ok (.slice (some ⟨b, 4 + K, none⟩) (16 - K) (16 - K)) w := by
  have hl : Tryz.prog.arrayLen 215 = 16 := by kernel_rfl
  have he : Tryz.prog.elem 215 = 5 := by kernel_rfl
  have h := run_sliceAt_array_l (P := Tryz.prog) w 215 ⟨b, 4, none⟩ (by kernel_rfl) .i64 (K : Int) (by omega) (by rw [hl]; omega)
  rw [h, hl, he, Tryz.sizeOf5]
  simp only [Result.andThen, slicedAt, Int.toNat_natCast]
  rw [if_neg (by omega), Addr.add_lit, Nat.mul_one]
theorem arr_h (b n : Nat) (hn : n ≤ 16) (w : World) : (Instr.sliceAt 215 (.pointer (some ⟨b, 4, none⟩)) none (some (.int .i64 (n : Int))) none).run Tryz.prog w = .ok (.slice (some ⟨b, 4, none⟩) n 16) w := by
  have hl : Tryz.prog.arrayLen 215 = 16 := by kernel_rfl
  have he : Tryz.prog.elem 215 = 5 := by kernel_rfl
  have h := run_sliceAt_array_h (P := Tryz.prog) w 215 ⟨b, 4, none⟩ (by kernel_rfl) .i64 (n : Int) (by omega) (by rw [hl]; omega)
  rw [h, hl, he, Tryz.sizeOf5]
  simp only [Result.andThen, slicedAt, Int.toNat_natCast]
  rw [if_neg (by omega), Addr.add_lit]
  rfl
theorem arr_lh (b n K : Nat) (hn : n < 16) (hnK : n ≤ K) (hK : K ≤ 16) (w : World) : (Instr.sliceAt 215 (.pointer (some ⟨b, 4, none⟩)) (some (.int .i64 (n : Int))) (some (.int .i64 (K : Int))) none).run Tryz.prog w = .ok (.slice (some ⟨b, 4 + n, none⟩) (K - n) (16 - n)) w := by
  have hl : Tryz.prog.arrayLen 215 = 16 := by kernel_rfl
  have he : Tryz.prog.elem 215 = 5 := by kernel_rfl
  have h := run_sliceAt_array_lh (P := Tryz.prog) w 215 ⟨b, 4, none⟩ (by kernel_rfl) .i64 .i64 (n : Int) (K : Int) (by omega) (by omega) (by rw [hl]; omega)
  rw [h, hl, he, Tryz.sizeOf5]
  simp only [Result.andThen, slicedAt, Int.toNat_natCast]
  rw [if_neg (by omega), Addr.add_lit, Nat.mul_one]
theorem arr_end (b : Nat) (w : World) : (Instr.sliceAt 215 (.pointer (some ⟨b, 4, none⟩)) (some (.int .i64 16)) (some (.int .i64 16)) none).run Tryz.prog w = .ok (.slice (some ⟨b, 4, none⟩) 0 0) w := by
  have hl : Tryz.prog.arrayLen 215 = 16 := by kernel_rfl
  have he : Tryz.prog.elem 215 = 5 := by kernel_rfl
  have h := run_sliceAt_array_lh (P := Tryz.prog) w 215 ⟨b, 4, none⟩ (by kernel_rfl) .i64 .i64 16 16 (by omega) (by omega) (by rw [hl]; omega)
  rw [h, hl, he, Tryz.sizeOf5]
  rfl
theorem arr_all (b : Nat) (w : World) : (Instr.sliceAt 215 (.pointer (some ⟨b, 4, none⟩)) none none none).run Tryz.prog w = .ok (.slice (some ⟨b, 4, none⟩) 16 16) w := by
  have hl : Tryz.prog.arrayLen 215 = 16 := by kernel_rfl
  have he : Tryz.prog.elem 215 = 5 := by kernel_rfl
  have h := run_sliceAt_array_all (P := Tryz.prog) w 215 ⟨b, 4, none⟩ (by kernel_rfl)
  rw [h, hl, he, Tryz.sizeOf5]
  rfl

section
variable {w : World} {b : Nat} {F I : Int} {B : List UInt8}

set_option maxHeartbeats 400000 in
theorem thas (w : World) (b : Nat) (e : Int) :
    Calls Tryz.prog 175 #[tp b, .int .i64 e] w fun x w' => x = .returned (.bool (decide (e = 2 ∨ e = 3))) ∧ w' = w := by
  by_cases h2 : e = 2
  · subst h2
    go_enter Tryz.func175, Tryz.ntmps175
    go_wp2
    go_ret
    exact ⟨rfl, rfl⟩
  · by_cases h3 : e = 3
    · subst h3
      go_enter Tryz.func175, Tryz.ntmps175
      go_wp2
      go_ret
      exact ⟨rfl, rfl⟩
    · rw [decide_eq_false (show ¬ (e = 2 ∨ e = 3) by omega)]
      go_enter Tryz.func175, Tryz.ntmps175
      go_wp2
      go_ret
      exact ⟨by simp [h2, h3], rfl⟩

theorem thas_not (w : World) (b : Nat) (e : Int) (h : ¬ (e = 2 ∨ e = 3)) : Calls Tryz.prog 175 #[tp b, .int .i64 e] w fun x w' => x = .returned (.bool false) ∧ w' = w := by
  have := thas w b e; rw [decide_eq_false h] at this; exact this
theorem thas_yes (w : World) (b : Nat) (e : Int) (h : e = 2 ∨ e = 3) : Calls Tryz.prog 175 #[tp b, .int .i64 e] w fun x w' => x = .returned (.bool true) ∧ w' = w := by
  have := thas w b e; rw [decide_eq_true h] at this; exact this

set_option maxHeartbeats 400000 in
theorem Tb.ends (h : Tb w b F I B) : Calls Tryz.prog 140 #[tp b] w fun x w' => x = .returned (.tuple #[.int .i64 F, .int .i64 I]) ∧ ∃ q, w' = w.drewN q := by
  have c1 := h.frm
  have c2 := h.int
  go_enter Tryz.func140, Tryz.ntmps140
  go_wp2
  go_quiet (fail)
  go_wp2
  go_ret2
  exact ⟨rfl, _, rfl⟩

set_option maxHeartbeats 400000 in
theorem Tb.len (h : Tb w b F I B) : Calls Tryz.prog 141 #[tp b] w fun x w' => x = .returned (.int .i64 (B.length : Int)) ∧ w' = w := by
  have c1 := h.held
  go_enter Tryz.func141, Tryz.ntmps141
  go_wp2
  go_ret
  exact ⟨rfl, rfl⟩

set_option maxHeartbeats 1000000 in
theorem Tb.open_ok (h : Tb w b F I B) (e : Int) (hF : 0 ≤ F) (hF' : F < 1000) (hI : 0 ≤ I) (hI' : I < 1000) :
    Calls Tryz.prog 158 #[tp b, .int .i64 e] w fun x w' => x = .returned (erT (opE e)) ∧ Tb w' b (opF F e) (opI I e) B ∧ w.grownBy w' (some b) := by
  have c1 := h.frm
  have c2 := h.int
  have l2 := h.live 2 (by omega)
  have l3 := h.live 3 (by omega)
  by_cases h2 : e = 2
  · subst h2
    go_enter Tryz.func158, Tryz.ntmps158
    go_wp2_with (go_at_call 175; refine (thas_yes _ b 2 (by omega)).mono ?_; rintro x w' ⟨rfl, rfl⟩)
    go_region
    go_wp2
    go_ret
    exact ⟨rfl, (h.putF (F + 1)).keep rfl, tgrown_drew (tgrown_set _ _ _ _)⟩
  · by_cases h3 : e = 3
    · subst h3
      go_enter Tryz.func158, Tryz.ntmps158
      go_wp2_with (go_at_call 175; refine (thas_yes _ b 3 (by omega)).mono ?_; rintro x w' ⟨rfl, rfl⟩)
      go_region
      go_wp2
      go_ret
      exact ⟨rfl, (h.putI (I + 1)).keep rfl, tgrown_drew (tgrown_set _ _ _ _)⟩
    · have e1 : opE e = 1 := by unfold opE; rw [if_neg (by omega)]
      have e2 : opF F e = F := by unfold opF; rw [if_neg h2]
      have e3 : opI I e = I := by unfold opI; rw [if_neg h3]
      rw [e1, e2, e3]
      go_enter Tryz.func158, Tryz.ntmps158
      go_wp2_with (go_at_call 175; refine (thas_not _ b e (by omega)).mono ?_; rintro x w' ⟨rfl, rfl⟩)
      go_ret
      exact ⟨rfl, h, World.grownBy.refl _ _⟩
end
end Go.Proofs.YtjkneekfijibiabGreatDoor

namespace Go.Proofs.YtjkneekfijibiabGreatDoor
open Go.RowKit

section
variable {w : World} {b : Nat} {F I : Int} {B : List UInt8}

set_option maxHeartbeats 1000000 in
theorem Tb.close_ok (h : Tb w b F I B) (e : Int) (hF : 0 ≤ F) (hF' : F < 1000) (hI : 0 ≤ I) (hI' : I < 1000) :
    Calls Tryz.prog 176 #[tp b, .int .i64 e] w fun x w' => x = .returned (erT (clE F I e)) ∧ Tb w' b (clF F e) (clI I e) B ∧ w.grownBy w' (some b) := by
  have c1 := h.frm
  have c2 := h.int
  have l2 := h.live 2 (by omega)
  have l3 := h.live 3 (by omega)
  by_cases h2 : e = 2
  · subst h2
    by_cases hz : F = 0
    · subst hz
      go_enter Tryz.func176, Tryz.ntmps176
      go_wp2_with (go_at_call 175; refine (thas_yes _ b 2 (by omega)).mono ?_; rintro x w' ⟨rfl, rfl⟩)
      go_ret
      exact ⟨rfl, h, World.grownBy.refl _ _⟩
    · have e1 : clE F I 2 = 0 := by unfold clE; rw [if_pos rfl, if_neg hz]
      have e2 : clF F 2 = F - 1 := by unfold clF; rw [if_pos ⟨rfl, hz⟩]
      have e3 : clI I 2 = I := by unfold clI; rw [if_neg (by omega)]
      have hq : (F == 0) = false := by simp [hz]
      rw [e1, e2, e3]
      go_enter Tryz.func176, Tryz.ntmps176
      go_wp2_with (go_at_call 175; refine (thas_yes _ b 2 (by omega)).mono ?_; rintro x w' ⟨rfl, rfl⟩)
      go_region
      go_wp2
      go_ret
      exact ⟨rfl, (h.putF (F - 1)).keep rfl, tgrown_drew (tgrown_set _ _ _ _)⟩
  · by_cases h3 : e = 3
    · subst h3
      by_cases hz : I = 0
      · subst hz
        go_enter Tryz.func176, Tryz.ntmps176
        go_wp2_with (go_at_call 175; refine (thas_yes _ b 3 (by omega)).mono ?_; rintro x w' ⟨rfl, rfl⟩)
        go_ret
        exact ⟨rfl, h, World.grownBy.refl _ _⟩
      · have e1 : clE F I 3 = 0 := by unfold clE; rw [if_neg (by omega), if_pos rfl, if_neg hz]
        have e2 : clF F 3 = F := by unfold clF; rw [if_neg (by omega)]
        have e3 : clI I 3 = I - 1 := by unfold clI; rw [if_pos ⟨rfl, hz⟩]
        have hq : (I == 0) = false := by simp [hz]
        rw [e1, e2, e3]
        go_enter Tryz.func176, Tryz.ntmps176
        go_wp2_with (go_at_call 175; refine (thas_yes _ b 3 (by omega)).mono ?_; rintro x w' ⟨rfl, rfl⟩)
        go_region
        go_wp2
        go_ret
        exact ⟨rfl, (h.putI (I - 1)).keep rfl, tgrown_drew (tgrown_set _ _ _ _)⟩
    · have e1 : clE F I e = 1 := by unfold clE; rw [if_neg h2, if_neg h3]
      have e2 : clF F e = F := by unfold clF; rw [if_neg (by omega)]
      have e3 : clI I e = I := by unfold clI; rw [if_neg (by omega)]
      rw [e1, e2, e3]
      go_enter Tryz.func176, Tryz.ntmps176
      go_wp2_with (go_at_call 175; refine (thas_not _ b e (by omega)).mono ?_; rintro x w' ⟨rfl, rfl⟩)
      go_ret
      exact ⟨rfl, h, World.grownBy.refl _ _⟩

theorem tgrown_drewN (w : World) (q : Nat) (r : Option Nat) : w.grownBy (w.drewN q) r := ⟨rfl, rfl, rfl, Nat.le_refl _, fun _ _ _ => rfl⟩

set_option maxHeartbeats 2000000 in
theorem Tb.write_ok (h : Tb w b F I B) (s : List UInt8) :
    Calls Tryz.prog 109 #[tp b, txt s] w fun x w' => x = .returned (.tuple #[.int .i64 (wrN F B s : Int), erT (wrE F B s)]) ∧ Tb w' b F I (wrB F B s) ∧ w.grownBy w' (some b) := by
  have hE := h.ends
  by_cases hz : F = 0
  · subst hz
    go_enter Tryz.func109, Tryz.ntmps109
    go_wp2_with fail
    refine hE.mono ?_
    rintro x w1 ⟨rfl, q, rfl⟩
    go_wp2_with fail
    go_ret2
    exact ⟨rfl, h.keep rfl, tgrown_drewN _ _ _⟩
  · have hq : (F == 0) = false := by simp [hz]
    by_cases hs : s = []
    · subst hs
      have e1 : wrE F B [] = 0 := by unfold wrE; rw [if_neg hz, if_pos rfl]
      have e2 : wrN F B [] = 0 := by unfold wrN; rw [if_neg hz]; simp
      have e3 : wrB F B [] = B := by unfold wrB; rw [if_neg hz]; simp
      rw [e1, e2, e3]
      go_enter Tryz.func109, Tryz.ntmps109
      go_wp2_with fail
      refine hE.mono ?_
      rintro x w1 ⟨rfl, q, rfl⟩
      go_wp2_with fail
      go_ret2
      exact ⟨rfl, h.keep rfl, tgrown_drewN _ _ _⟩
    · have hsq : s.isEmpty = false := by cases s with
        | nil => exact absurd rfl hs
        | cons _ _ => rfl
      have hc0 := h.held
      by_cases hf : B.length = 16
      · have e1 : wrE F B s = 12 := by unfold wrE; rw [if_neg hz, if_neg hs, if_pos hf]
        have e2 : wrN F B s = 0 := by unfold wrN; rw [if_neg hz, hf]; simp
        have e3 : wrB F B s = B := by unfold wrB; rw [if_neg hz, hf]; simp
        rw [hf] at hc0
        rw [e1, e2, e3]
        go_enter Tryz.func109, Tryz.ntmps109
        go_wp2_with fail
        refine hE.mono ?_
        rintro x w1 ⟨rfl, q, rfl⟩
        go_wp2_with fail
        go_ret2
        exact ⟨rfl, h.keep rfl, tgrown_drewN _ _ _⟩
      · have hfew := h.few
        have e1 : wrE F B s = 0 := by unfold wrE; rw [if_neg hz, if_neg hs, if_neg hf]
        obtain ⟨S, hS⟩ : ∃ S, s.take (16 - B.length) = S := ⟨_, rfl⟩
        have hSl : S.length = min s.length (16 - B.length) := by rw [← hS, List.length_take]; exact Nat.min_comm _ _
        have e2 : wrN F B s = S.length := by unfold wrN; rw [if_neg hz, hSl]
        have e3 : wrB F B s = B ++ S := by unfold wrB; rw [if_neg hz, hS]
        rw [e1, e2, e3]
        have hSl' : B.length + S.length ≤ 16 := by omega
        obtain ⟨K, hK⟩ : ∃ K, B.length = K := ⟨_, rfl⟩
        have hfq : ((K : Int) == 16) = false := by simp; omega
        have hl20 := h.live 20 (by omega)
        have hcopy : ∀ q ty, (Builtin.copy_ #[29, 9] ty #[.slice (some ⟨b, 4 + K, none⟩) (16 - K) (16 - K), txt s]).run Tryz.prog (w.drewN (q + 1)) = .ok (.int .i64 (S.length : Int)) ((w.drewN (q + 1)).setCells b (4 + K) (bcs S)) := fun q ty => by
          rw [← hS, ← hK]
          exact run_copy_text (w.drewN (q + 1)) 29 9 ty 5 b (4 + B.length) (16 - B.length) (16 - B.length) s Tryz.underlying29 (fun _ => Tryz.sizeOf5 _) ((h.keep (w' := w.drewN (q + 1)) rfl).some_at _ _ (by omega) (by omega)) ((h.keep (w' := w.drewN (q + 1)) rfl).free_at _ _ (by omega))
        have hheld : ∀ q, ((w.drewN (q + 1)).setCells b (4 + K) (bcs S)).cell? ⟨b, 20, none⟩ = some (.int .i64 (K : Int)) := fun q => by
          rw [out_cell (n := S.length) (bcs_len S) (by omega), ← hK]; exact (h.keep (w' := w.drewN (q + 1)) rfl).held
        have hfree : ∀ q, ((w.drewN (q + 1)).setCells b (4 + K) (bcs S)).frozen? ⟨b, 20, none⟩ = false := fun q => by
          rw [World.frozen?_setCells]; exact hl20
        have fin : ∀ q, Tb (((w.drewN (q + 1)).setCells b (4 + K) (bcs S)).setCell ⟨b, 20, none⟩ (.int .i64 ((K : Int) + (S.length : Int)))) b F I (B ++ S) := fun q => by
          rw [← hK]; exact (h.keep (w' := w.drewN (q + 1)) rfl).write S hSl'
        have gro : ∀ q, w.grownBy (((w.drewN (q + 1)).setCells b (4 + K) (bcs S)).setCell ⟨b, 20, none⟩ (.int .i64 ((K : Int) + (S.length : Int)))) (some b) := fun q =>
          tgrown_trans (tgrown_trans (tgrown_drewN w (q + 1) _) (tgrown_sets b _ _ _)) (tgrown_set _ _ _ _)
        rw [hK] at hc0 hSl' hfew
        have hsl := arr_l b K (by omega)
        clear hS hSl e1 e2 e3 hf h
        generalize bcs S = bS at *
        generalize S.length = nS at *
        go_enter Tryz.func109, Tryz.ntmps109
        go_wp2_with fail
        refine hE.mono ?_
        rintro x w1 ⟨rfl, q, rfl⟩
        clear hE
        have hcopy := hcopy q
        have hheld := hheld q
        have hfree := hfree q
        have fin := fin q
        have gro := gro q
        go_wp2_with fail
        go_region
        go_wp2_with fail
        go_ret2
        exact ⟨rfl, fin, gro⟩
end
end Go.Proofs.YtjkneekfijibiabGreatDoor

namespace Go.Proofs.YtjkneekfijibiabGreatDoor
open Go.RowKit

theorem conv_bytes (w : World) (b n c : Nat) (B : List UInt8) (hn : n ≤ B.length) (hc : ∀ k, k < n → w.cell? ⟨b, 4 + k, none⟩ = some (.int .u8 (bt B k))) :
    (convert 29 9 (.slice (some ⟨b, 4, none⟩) n c)).run Tryz.prog w = .ok (txt (B.take n)) w := by
  have h := run_convert_bytes_arg (P := Tryz.prog) w 29 5 Tryz.underlying29 Tryz.underlying5 b 4 n c ((B.take n).map fun x => (x.toNat : Int)) (by simp; omega) (fun i hi => by
    have hi' : i < B.length := by omega
    rw [hc i hi]
    congr 2
    simp [bt, List.getD, hi', List.getElem?_take_of_lt hi]) 9 Tryz.underlying9
  rw [h, show strOfNums ((B.take n).map fun x => (x.toNat : Int)) = ⟨(B.take n).toArray⟩ by apply ByteArray.ext; simp [strOfNums, Function.comp_def]]

section
variable {w : World} {b : Nat} {F I : Int} {B : List UInt8}

set_option maxHeartbeats 2000000 in
theorem Tb.take_ok (h : Tb w b F I B) (n : Nat) (h1 : 1 ≤ n) (hn : n ≤ B.length) :
    Calls Tryz.prog 142 #[tp b, .int .i64 (n : Int)] w fun x w' => x = .returned (txt (B.take n)) ∧ Tb w' b F I (B.drop n) ∧ w.grownBy w' (some b) := by
  have hfew := h.few
  have hl20 := h.live 20 (by omega)
  have hsl1 := arr_h b n (by omega)
  have hconv := conv_bytes w b n 16 B hn (fun k hk => h.byte k (by omega))
  have hc0 := h.held
  have hall := arr_all b
  have hd : (B.drop n).length = B.length - n := by simp
  have hk : Tb (w.drewN 1) b F I B := h.keep rfl
  have hcopy : ∀ ty (sl : Value), sl = (if n = 16 then .slice (some ⟨b, 4, none⟩) 0 0 else .slice (some ⟨b, 4 + n, none⟩) (B.length - n) (16 - n)) →
      (Builtin.copy_ #[29, 29] ty #[.slice (some ⟨b, 4, none⟩) 16 16, sl]).run Tryz.prog w.drew = .ok (.int .i64 ((B.length - n : Nat) : Int)) (w.drew.setCells b 4 (bcs (B.drop n))) := by
    rintro ty sl rfl
    by_cases h16 : n = 16
    · rw [if_pos h16]
      have e0 : B.drop n = [] := List.drop_eq_nil_of_le (by omega)
      have := run_copy_none (P := Tryz.prog) w.drew 29 29 ty 5 (some ⟨b, 4, none⟩) (some ⟨b, 4, none⟩) 16 16 0 0 Tryz.underlying29 (by kernel_rfl) (by rfl)
      rw [this, e0, show B.length - n = 0 by omega]; rfl
    · rw [if_neg h16]
      have := run_copy_cells (P := Tryz.prog) w.drew 29 29 ty 5 b 4 16 16 ⟨b, 4 + n, none⟩ (B.length - n) (16 - n) (bcs (B.drop n)) Tryz.underlying29 (by kernel_rfl) (by rw [bcs_len, hd]; exact (Nat.min_eq_left (by omega)).symm) (fun j v hv => by
        obtain ⟨hj, rfl⟩ := bcs_get? _ _ _ hv
        rw [Addr.add_lit, bt_drop, show 4 + n + j = 4 + (n + j) by omega]
        exact (h.keep (w' := w.drew) rfl).byte (n + j) (by omega)) (by rw [bcs_len, hd]; exact (h.keep (w' := w.drew) rfl).some_at 4 _ (by omega) (by omega)) (by rw [bcs_len, hd]; exact (h.keep (w' := w.drew) rfl).free_at 4 _ (by omega)) (bcs_one _)
      rw [this, bcs_len, hd]; rfl
  obtain ⟨D, hD⟩ : ∃ D, B.length - n = D := ⟨_, rfl⟩
  have hD16 : D < 16 := by omega
  obtain ⟨w1, hw1⟩ : ∃ w1, w.drew.setCells b 4 (bcs (B.drop n)) = w1 := ⟨_, rfl⟩
  have hc1 : w1.cell? ⟨b, 20, none⟩ = some (.int .i64 (B.length : Int)) := by
    rw [← hw1, out_cell (n := D) (by rw [bcs_len, hd, hD]) (by omega)]; exact hc0
  have hf1 : w1.frozen? ⟨b, 20, none⟩ = false := by rw [← hw1, World.frozen?_setCells]; exact hl20
  have hsl3 := arr_l b D hD16
  have hT := (h.keep (w' := w.drew) rfl).take n hn
  rw [hD, hw1] at hT
  have hclear : ∀ ty, (Builtin.clear_ #[29] ty #[.slice (some ⟨b, 4 + D, none⟩) (16 - D) (16 - D)]).run Tryz.prog (w1.setCell ⟨b, 20, none⟩ (.int .i64 (D : Int))).drew = .ok (.tuple #[]) ((w1.setCell ⟨b, 20, none⟩ (.int .i64 (D : Int))).drew.setCells b (4 + D) (List.replicate (16 - D) (.int .u8 0))) := fun ty =>
    Lib.run_clear_slice _ 29 5 ty (.int .u8 0) Tryz.underlying29 (fun _ => Tryz.zeroValue5 _) rfl rfl b (4 + D) (16 - D) (16 - D) (by omega) (fun j hj => by
      show ((w1.setCell ⟨b, 20, none⟩ (.int .i64 (D : Int))).cell? ⟨b, 4 + D + j, none⟩).isSome = true
      rw [World.cell?_setCell_other _ _ _ _ (off_ne (by omega)), ← hw1, out_cell (n := D) (by rw [bcs_len, hd, hD]) (by omega)]
      exact (h.keep (w' := w.drew) rfl).some_at 4 16 (by omega) (by omega) (D + j) (by omega) |> fun x => by rw [show 4 + D + j = 4 + (D + j) by omega]; exact x) (fun j hj => by
      show (w1.setCell ⟨b, 20, none⟩ (.int .i64 (D : Int))).frozen? ⟨b, 4 + D + j, none⟩ = false
      rw [World.frozen?_setCell, ← hw1, World.frozen?_setCells]; exact h.live (4 + D + j) (by omega))
  have gro : w.grownBy (((w1.setCell ⟨b, 20, none⟩ (.int .i64 (D : Int))).drew).setCells b (4 + D) (List.replicate (16 - D) (.int .u8 0))) (some b) := by
    rw [← hw1]
    exact tgrown_trans (tgrown_drew (tgrown_trans (tgrown_trans (tgrown_drew (World.grownBy.refl w _)) (tgrown_sets b _ 4 _)) (tgrown_set _ _ _ _))) (tgrown_sets b _ _ _)
  have hT' : Tb ((w1.setCell ⟨b, 20, none⟩ (.int .i64 (D : Int))).drew.setCells b (4 + D) (List.replicate (16 - D) (.int .u8 0))) b F I (B.drop n) := hT.keep (by
    rw [show ((w1.setCell ⟨b, 20, none⟩ (.int .i64 (D : Int))).drew.setCells b (4 + D) (List.replicate (16 - D) (.int .u8 0))) = ((w1.setCell ⟨b, 20, none⟩ (.int .i64 (D : Int))).setCells b (4 + D) (List.replicate (16 - D) (.int .u8 0))).drew from (drew_cells b _ _ _).symm]
    rfl)
  have hc3 : (w1.setCell ⟨b, 20, none⟩ (.int .i64 (D : Int))).cell? ⟨b, 20, none⟩ = some (.int .i64 (D : Int)) := World.cell?_setCell_same _ _ _ hc1
  rw [hD, hw1] at hcopy
  obtain ⟨K, hK⟩ : ∃ K, B.length = K := ⟨_, rfl⟩
  rw [hK] at hc0 hc1 hn hfew hD
  generalize B.take n = T at *
  generalize B.drop n = E at *
  generalize List.replicate (16 - D) (Value.int .u8 0) = zs at *
  by_cases h16 : n = 16
  · subst h16
    have hslE := arr_end b
    have hcp := fun ty => hcopy ty _ (if_pos rfl).symm
    obtain rfl : K = 16 := by omega
    clear hcopy hT h hk
    go_enter Tryz.func142, Tryz.ntmps142
    go_wp2_with fail
    go_region
    go_wp2_with fail
    go_region
    go_wp2_with fail
    go_ret
    exact ⟨rfl, hT', gro⟩
  · have hsl2 := arr_lh b n K (by omega) hn (by omega)
    simp only [hD] at hsl2
    have hcp := fun ty => hcopy ty _ (if_neg h16).symm
    clear hcopy hT h hk
    go_enter Tryz.func142, Tryz.ntmps142
    go_wp2_with fail
    go_region
    go_wp2_with fail
    go_region
    go_wp2_with fail
    go_ret
    exact ⟨rfl, hT', gro⟩

set_option maxHeartbeats 2000000 in
theorem Tb.read_ok (h : Tb w b F I B) (n : Int) (hI : 0 ≤ I) :
    Calls Tryz.prog 110 #[tp b, .int .i64 n] w fun x w' => x = .returned (.tuple #[txt (B.take n.toNat), erT (rdE I B n)]) ∧ Tb w' b F I (B.drop n.toNat) ∧ w.grownBy w' (some b) := by
  have hE := h.ends
  have hL := h.len
  have hc0 := h.held
  have hfew := h.few
  by_cases h0 : n < 0
  · have e1 : rdE I B n = 2 := by unfold rdE; rw [if_pos h0]
    have e2 : n.toNat = 0 := by omega
    rw [e1, e2, List.take_zero, List.drop_zero]
    go_enter Tryz.func110, Tryz.ntmps110
    go_wp2_with fail
    go_ret2
    exact ⟨rfl, h, World.grownBy.refl _ _⟩
  · by_cases hz : n = 0
    · subst hz
      go_enter Tryz.func110, Tryz.ntmps110
      go_wp2_with fail
      go_ret2
      exact ⟨rfl, h, World.grownBy.refl _ _⟩
    · have hnq : (n == 0) = false := by simp [hz]
      by_cases hB : B = []
      · subst hB
        by_cases hI0 : 0 < I
        · have e1 : rdE I [] n = 8 := by unfold rdE; rw [if_neg h0, if_neg hz, if_pos ⟨rfl, hI0⟩]
          rw [e1, List.take_nil, List.drop_nil]
          go_enter Tryz.func110, Tryz.ntmps110
          go_wp2_with fail
          refine hL.mono ?_
          rintro x w1 ⟨rfl, hw⟩
          subst w1
          go_wp2_with fail
          refine hE.mono ?_
          rintro x w1 ⟨rfl, q, rfl⟩
          go_wp2_with fail
          go_ret2
          exact ⟨rfl, h.keep rfl, tgrown_drewN _ _ _⟩
        · have e1 : rdE I [] n = 0 := by unfold rdE; rw [if_neg h0, if_neg hz, if_neg (fun e => hI0 e.2)]
          rw [e1, List.take_nil, List.drop_nil]
          go_enter Tryz.func110, Tryz.ntmps110
          go_wp2_with fail
          refine hL.mono ?_
          rintro x w1 ⟨rfl, hw⟩
          subst w1
          go_wp2_with fail
          refine hE.mono ?_
          rintro x w1 ⟨rfl, q, rfl⟩
          go_wp2_with fail
          go_ret2
          exact ⟨rfl, h.keep rfl, tgrown_drewN _ _ _⟩
      · have hBl : 0 < B.length := by cases B with
          | nil => exact absurd rfl hB
          | cons _ _ => simp
        have e1 : rdE I B n = 0 := by unfold rdE; rw [if_neg h0, if_neg hz, if_neg (fun e => hB e.1)]
        have e2 : B.take n.toNat = B.take (min n.toNat B.length) := by
          by_cases hm : n.toNat ≤ B.length
          · rw [Nat.min_eq_left hm]
          · rw [Nat.min_eq_right (by omega), List.take_of_length_le (by omega), List.take_of_length_le (by omega)]
        have e3 : B.drop n.toNat = B.drop (min n.toNat B.length) := by
          by_cases hm : n.toNat ≤ B.length
          · rw [Nat.min_eq_left hm]
          · rw [Nat.min_eq_right (by omega), List.drop_eq_nil_of_le (by omega), List.drop_eq_nil_of_le (by omega)]
        obtain ⟨m, hm⟩ : ∃ m, min n.toNat B.length = m := ⟨_, rfl⟩
        rw [hm] at e2 e3
        have hT := h.take_ok m (by omega) (by omega)
        rw [e1, e2, e3]
        clear e1 e2 e3
        obtain ⟨K, hK⟩ : ∃ K, B.length = K := ⟨_, rfl⟩
        rw [hK] at hc0 hfew hBl hm hL
        have hKq : ((K : Int) == 0) = false := by simp; omega
        generalize B.take m = T at *
        generalize B.drop m = E at *
        clear h hB hK
        by_cases hnm : n ≤ (K : Int)
        · have hm' : (m : Int) = n := by omega
          rw [hm'] at hT
          go_enter Tryz.func110, Tryz.ntmps110
          go_wp2_with fail
          refine hL.mono ?_
          rintro x w1 ⟨rfl, hw⟩
          subst w1
          go_wp2_with fail
          refine hT.mono ?_
          rintro x w1 ⟨rfl, hT', g⟩
          go_wp2_with fail
          go_ret2
          exact ⟨rfl, hT', g⟩
        · have hm' : m = K := by omega
          rw [hm'] at hT
          go_enter Tryz.func110, Tryz.ntmps110
          go_wp2_with fail
          refine hL.mono ?_
          rintro x w1 ⟨rfl, hw⟩
          subst w1
          go_wp2_with fail
          refine hT.mono ?_
          rintro x w1 ⟨rfl, hT', g⟩
          go_wp2_with fail
          go_ret2
          exact ⟨rfl, hT', g⟩
end
end Go.Proofs.YtjkneekfijibiabGreatDoor

/- What the functions of package pipe do to a world, each by its Go text. -/
import Derived.Test.YtjkneekfijibiabGreatDoorTubeG
import Derived.Test.YtjkneekfijibiabGreatDoorRows
import Derived.WalkLawsBesides
import Derived.Outline
import Derived.RegionTactic
import Derived.ChangeAlike
import Derived.BigQuiet
import Derived.Deep.QuietTactic
namespace Go.Proofs.YtjkneekfijibiabGreatDoor
open Go.RowKit
/-- Slices of the pipe's own array. -/
theorem arr_l (b K : Nat) (hK : K < 16) (w : World) : (Instr.sliceAt 215 (.pointer (some ⟨b, 4, none⟩)) (some (.int .i64 (K : Int))) none none).run Tryz.prog w = .ok (.slice (some ⟨b, 4 + K, none⟩) (16 - K) (16 - K)) w := by
  have hl : Tryz.prog.arrayLen 215 = 16 := by kernel_rfl
  have he : Tryz.prog.elem 215 = 5 := by kernel_rfl
  have h := run_sliceAt_array_l (P := Tryz.prog) w 215 ⟨b, 4, none⟩ (by kernel_rfl) .i64 (K : Int) (by omega) (by rw [hl]; omega)
  rw [h, hl, he, Tryz.sizeOf5]
  simp only [Result.andThen, slicedAt, Int.toNat_natCast]
  rw [if_neg (by omega), Addr.add_lit, Nat.mul_one]
theorem arr_h (b n : Nat) (hn : n ≤ 16) (w : World) : (Instr.sliceAt 215 (.pointer (some ⟨b, 4, none⟩)) none (some (.int .i64 (n : Int))) none).run Tryz.prog w = .ok (.slice (some ⟨b, 4, none⟩) n 16) w := by
  have hl : Tryz.prog.arrayLen 215 = 16 := by kernel_rfl
  have he : Tryz.prog.elem 215 = 5 := by kernel_rfl
  have h := run_sliceAt_array_h (P := Tryz.prog) w 215 ⟨b, 4, none⟩ (by kernel_rfl) .i64 (n : Int) (by omega) (by rw [hl]; omega)
  rw [h, hl, he, Tryz.sizeOf5]
  simp only [Result.andThen, slicedAt, Int.toNat_natCast]
  rw [if_neg (by omega), Addr.add_lit]
  rfl
theorem arr_lh (b n K : Nat) (hn : n < 16) (hnK : n ≤ K) (hK : K ≤ 16) (w : World) : (Instr.sliceAt 215 (.pointer (some ⟨b, 4, none⟩)) (some (.int .i64 (n : Int))) (some (.int .i64 (K : Int))) none).run Tryz.prog w = .ok (.slice (some ⟨b, 4 + n, none⟩) (K - n) (16 - n)) w := by
  have hl : Tryz.prog.arrayLen 215 = 16 := by kernel_rfl
  have he : Tryz.prog.elem 215 = 5 := by kernel_rfl
  have h := run_sliceAt_array_lh (P := Tryz.prog) w 215 ⟨b, 4, none⟩ (by kernel_rfl) .i64 .i64 (n : Int) (K : Int) (by omega) (by omega) (by rw [hl]; omega)
  rw [h, hl, he, Tryz.sizeOf5]
  simp only [Result.andThen, slicedAt, Int.toNat_natCast]
  rw [if_neg (by omega), Addr.add_lit, Nat.mul_one]
theorem arr_end (b : Nat) (w : World) : (Instr.sliceAt 215 (.pointer (some ⟨b, 4, none⟩)) (some (.int .i64 16)) (some (.int .i64 16)) none).run Tryz.prog w = .ok (.slice (some ⟨b, 4, none⟩) 0 0) w := by
  have hl : Tryz.prog.arrayLen 215 = 16 := by kernel_rfl
  have he : Tryz.prog.elem 215 = 5 := by kernel_rfl
  have h := run_sliceAt_array_lh (P := Tryz.prog) w 215 ⟨b, 4, none⟩ (by kernel_rfl) .i64 .i64 16 16 (by omega) (by omega) (by rw [hl]; omega)
  rw [h, hl, he, Tryz.sizeOf5]
  rfl
theorem arr_all (b : Nat) (w : World) : (Instr.sliceAt 215 (.pointer (some ⟨b, 4, none⟩)) none none none).run Tryz.prog w = .ok (.slice (some ⟨b, 4, none⟩) 16 16) w := by
  have hl : Tryz.prog.arrayLen 215 = 16 := by kernel_rfl
  have he : Tryz.prog.elem 215 = 5 := by kernel_rfl
  have h := run_sliceAt_array_all (P := Tryz.prog) w 215 ⟨b, 4, none⟩ (by kernel_rfl)
  rw [h, hl, he, Tryz.sizeOf5]
  rfl

section
variable {w : World} {b : Nat} {F I : Int} {B : List UInt8}

set_option maxHeartbeats 400000 in
theorem thas (w : World) (b : Nat) (e : Int) :
    Calls Tryz.prog 175 #[tp b, .int .i64 e] w fun x w' => x = .returned (.bool (decide (e = 2 ∨ e = 3))) ∧ w' = w := by
  by_cases h2 : e = 2
  · subst h2
    go_enter Tryz.func175, Tryz.ntmps175
    go_wp2
    go_ret
    exact ⟨rfl, rfl⟩
  · by_cases h3 : e = 3
    · subst h3
      go_enter Tryz.func175, Tryz.ntmps175
      go_wp2
      go_ret
      exact ⟨rfl, rfl⟩
    · rw [decide_eq_false (show ¬ (e = 2 ∨ e = 3) by omega)]
      go_enter Tryz.func175, Tryz.ntmps175
      go_wp2
      go_ret
      exact ⟨by simp [h2, h3], rfl⟩

theorem thas_not (w : World) (b : Nat) (e : Int) (h : ¬ (e = 2 ∨ e = 3)) : Calls Tryz.prog 175 #[tp b, .int .i64 e] w fun x w' => x = .returned (.bool false) ∧ w' = w := by
  have := thas w b e; rw [decide_eq_false h] at this; exact this
theorem thas_yes (w : World) (b : Nat) (e : Int) (h : e = 2 ∨ e = 3) : Calls Tryz.prog 175 #[tp b, .int .i64 e] w fun x w' => x = .returned (.bool true) ∧ w' = w := by
  have := thas w b e; rw [decide_eq_true h] at this; exact this

set_option maxHeartbeats 400000 in
theorem Tb.ends (h : Tb w b F I B) : Calls Tryz.prog 140 #[tp b] w fun x w' => x = .returned (.tuple #[.int .i64 F, .int .i64 I]) ∧ ∃ q, w' = w.drewN q := by
  have c1 := h.frm
  have c2 := h.int
  go_enter Tryz.func140, Tryz.ntmps140
  go_wp2
  go_quiet (fail)
  go_wp2
  go_ret2
  exact ⟨rfl, _, rfl⟩

set_option maxHeartbeats 400000 in
theorem Tb.len (h : Tb w b F I B) : Calls Tryz.prog 141 #[tp b] w fun x w' => x = .returned (.int .i64 (B.length : Int)) ∧ w' = w := by
  have c1 := h.held
  go_enter Tryz.func141, Tryz.ntmps141
  go_wp2
  go_ret
  exact ⟨rfl, rfl⟩

set_option maxHeartbeats 1000000 in
theorem Tb.open_ok (h : Tb w b F I B) (e : Int) (hF : 0 ≤ F) (hF' : F < 1000) (hI : 0 ≤ I) (hI' : I < 1000) :
    Calls Tryz.prog 158 #[tp b, .int .i64 e] w fun x w' => x = .returned (erT (opE e)) ∧ Tb w' b (opF F e) (opI I e) B ∧ w.grownBy w' (some b) := by
  have c1 := h.frm
  have c2 := h.int
  have l2 := h.live 2 (by omega)
  have l3 := h.live 3 (by omega)
  by_cases h2 : e = 2
  · subst h2
    go_enter Tryz.func158, Tryz.ntmps158
    go_wp2_with (go_at_call 175; refine (thas_yes _ b 2 (by omega)).mono ?_; rintro x w' ⟨rfl, rfl⟩)
    go_region
    go_wp2
    go_ret
    exact ⟨rfl, (h.putF (F + 1)).keep rfl, tgrown_drew (tgrown_set _ _ _ _)⟩
  · by_cases h3 : e = 3
    · subst h3
      go_enter Tryz.func158, Tryz.ntmps158
      go_wp2_with (go_at_call 175; refine (thas_yes _ b 3 (by omega)).mono ?_; rintro x w' ⟨rfl, rfl⟩)
      go_region
      go_wp2
      go_ret
      exact ⟨rfl, (h.putI (I + 1)).keep rfl, tgrown_drew (tgrown_set _ _ _ _)⟩
    · have e1 : opE e = 1 := by unfold opE; rw [if_neg (by omega)]
      have e2 : opF F e = F := by unfold opF; rw [if_neg h2]
      have e3 : opI I e = I := by unfold opI; rw [if_neg h3]
      rw [e1, e2, e3]
      go_enter Tryz.func158, Tryz.ntmps158
      go_wp2_with (go_at_call 175; refine (thas_not _ b e (by omega)).mono ?_; rintro x w' ⟨rfl, rfl⟩)
      go_ret
      exact ⟨rfl, h, World.grownBy.refl _ _⟩
end
end Go.Proofs.YtjkneekfijibiabGreatDoor

namespace Go.Proofs.YtjkneekfijibiabGreatDoor
open Go.RowKit

section
variable {w : World} {b : Nat} {F I : Int} {B : List UInt8}

set_option maxHeartbeats 1000000 in
theorem Tb.close_ok (h : Tb w b F I B) (e : Int) (hF : 0 ≤ F) (hF' : F < 1000) (hI : 0 ≤ I) (hI' : I < 1000) :
    Calls Tryz.prog 176 #[tp b, .int .i64 e] w fun x w' => x = .returned (erT (clE F I e)) ∧ Tb w' b (clF F e) (clI I e) B ∧ w.grownBy w' (some b) := by
  have c1 := h.frm
  have c2 := h.int
  have l2 := h.live 2 (by omega)
  have l3 := h.live 3 (by omega)
  by_cases h2 : e = 2
  · subst h2
    by_cases hz : F = 0
    · subst hz
      go_enter Tryz.func176, Tryz.ntmps176
      go_wp2_with (go_at_call 175; refine (thas_yes _ b 2 (by omega)).mono ?_; rintro x w' ⟨rfl, rfl⟩)
      go_ret
      exact ⟨rfl, h, World.grownBy.refl _ _⟩
    · have e1 : clE F I 2 = 0 := by unfold clE; rw [if_pos rfl, if_neg hz]
      have e2 : clF F 2 = F - 1 := by unfold clF; rw [if_pos ⟨rfl, hz⟩]
      have e3 : clI I 2 = I := by unfold clI; rw [if_neg (by omega)]
      have hq : (F == 0) = false := by simp [hz]
      rw [e1, e2, e3]
      go_enter Tryz.func176, Tryz.ntmps176
      go_wp2_with (go_at_call 175; refine (thas_yes _ b 2 (by omega)).mono ?_; rintro x w' ⟨rfl, rfl⟩)
      go_region
      go_wp2
      go_ret
      exact ⟨rfl, (h.putF (F - 1)).keep rfl, tgrown_drew (tgrown_set _ _ _ _)⟩
  · by_cases h3 : e = 3
    · subst h3
      by_cases hz : I = 0
      · subst hz
        go_enter Tryz.func176, Tryz.ntmps176
        go_wp2_with (go_at_call 175; refine (thas_yes _ b 3 (by omega)).mono ?_; rintro x w' ⟨rfl, rfl⟩)
        go_ret
        exact ⟨rfl, h, World.grownBy.refl _ _⟩
      · have e1 : clE F I 3 = 0 := by unfold clE; rw [if_neg (by omega), if_pos rfl, if_neg hz]
        have e2 : clF F 3 = F := by unfold clF; rw [if_neg (by omega)]
        have e3 : clI I 3 = I - 1 := by unfold clI; rw [if_pos ⟨rfl, hz⟩]
        have hq : (I == 0) = false := by simp [hz]
        rw [e1, e2, e3]
        go_enter Tryz.func176, Tryz.ntmps176
        go_wp2_with (go_at_call 175; refine (thas_yes _ b 3 (by omega)).mono ?_; rintro x w' ⟨rfl, rfl⟩)
        go_region
        go_wp2
        go_ret
        exact ⟨rfl, (h.putI (I - 1)).keep rfl, tgrown_drew (tgrown_set _ _ _ _)⟩
    · have e1 : clE F I e = 1 := by unfold clE; rw [if_neg h2, if_neg h3]
      have e2 : clF F e = F := by unfold clF; rw [if_neg (by omega)]
      have e3 : clI I e = I := by unfold clI; rw [if_neg (by omega)]
      rw [e1, e2, e3]
      go_enter Tryz.func176, Tryz.ntmps176
      go_wp2_with (go_at_call 175; refine (thas_not _ b e (by omega)).mono ?_; rintro x w' ⟨rfl, rfl⟩)
      go_ret
      exact ⟨rfl, h, World.grownBy.refl _ _⟩

theorem tgrown_drewN (w : World) (q : Nat) (r : Option Nat) : w.grownBy (w.drewN q) r := ⟨rfl, rfl, rfl, Nat.le_refl _, fun _ _ _ => rfl⟩

set_option maxHeartbeats 2000000 in
theorem Tb.write_ok (h : Tb w b F I B) (s : List UInt8) :
    Calls Tryz.prog 109 #[tp b, txt s] w fun x w' => x = .returned (.tuple #[.int .i64 (wrN F B s : Int), erT (wrE F B s)]) ∧ Tb w' b F I (wrB F B s) ∧ w.grownBy w' (some b) := by
  have hE := h.ends
  by_cases hz : F = 0
  · subst hz
    go_enter Tryz.func109, Tryz.ntmps109
    go_wp2_with fail
    refine hE.mono ?_
    rintro x w1 ⟨rfl, q, rfl⟩
    go_wp2_with fail
    go_ret2
    exact ⟨rfl, h.keep rfl, tgrown_drewN _ _ _⟩
  · have hq : (F == 0) = false := by simp [hz]
    by_cases hs : s = []
    · subst hs
      have e1 : wrE F B [] = 0 := by unfold wrE; rw [if_neg hz, if_pos rfl]
      have e2 : wrN F B [] = 0 := by unfold wrN; rw [if_neg hz]; simp
      have e3 : wrB F B [] = B := by unfold wrB; rw [if_neg hz]; simp
      rw [e1, e2, e3]
      go_enter Tryz.func109, Tryz.ntmps109
      go_wp2_with fail
      refine hE.mono ?_
      rintro x w1 ⟨rfl, q, rfl⟩
      go_wp2_with fail
      go_ret2
      exact ⟨rfl, h.keep rfl, tgrown_drewN _ _ _⟩
    · have hsq : s.isEmpty = false := by cases s with
        | nil => exact absurd rfl hs
        | cons _ _ => rfl
      have hc0 := h.held
      by_cases hf : B.length = 16
      · have e1 : wrE F B s = 12 := by unfold wrE; rw [if_neg hz, if_neg hs, if_pos hf]
        have e2 : wrN F B s = 0 := by unfold wrN; rw [if_neg hz, hf]; simp
        have e3 : wrB F B s = B := by unfold wrB; rw [if_neg hz, hf]; simp
        rw [hf] at hc0
        rw [e1, e2, e3]
        go_enter Tryz.func109, Tryz.ntmps109
        go_wp2_with fail
        refine hE.mono ?_
        rintro x w1 ⟨rfl, q, rfl⟩
        go_wp2_with fail
        go_ret2
        exact ⟨rfl, h.keep rfl, tgrown_drewN _ _ _⟩
      · have hfew := h.few
        have e1 : wrE F B s = 0 := by unfold wrE; rw [if_neg hz, if_neg hs, if_neg hf]
        obtain ⟨S, hS⟩ : ∃ S, s.take (16 - B.length) = S := ⟨_, rfl⟩
        have hSl : S.length = min s.length (16 - B.length) := by rw [← hS, List.length_take]; exact Nat.min_comm _ _
        have e2 : wrN F B s = S.length := by unfold wrN; rw [if_neg hz, hSl]
        have e3 : wrB F B s = B ++ S := by unfold wrB; rw [if_neg hz, hS]
        rw [e1, e2, e3]
        have hSl' : B.length + S.length ≤ 16 := by omega
        obtain ⟨K, hK⟩ : ∃ K, B.length = K := ⟨_, rfl⟩
        have hfq : ((K : Int) == 16) = false := by simp; omega
        have hl20 := h.live 20 (by omega)
        have hcopy : ∀ q ty, (Builtin.copy_ #[29, 9] ty #[.slice (some ⟨b, 4 + K, none⟩) (16 - K) (16 - K), txt s]).run Tryz.prog (w.drewN (q + 1)) = .ok (.int .i64 (S.length : Int)) ((w.drewN (q + 1)).setCells b (4 + K) (bcs S)) := fun q ty => by
          rw [← hS, ← hK]
          exact run_copy_text (w.drewN (q + 1)) 29 9 ty 5 b (4 + B.length) (16 - B.length) (16 - B.length) s Tryz.underlying29 (fun _ => Tryz.sizeOf5 _) ((h.keep (w' := w.drewN (q + 1)) rfl).some_at _ _ (by omega) (by omega)) ((h.keep (w' := w.drewN (q + 1)) rfl).free_at _ _ (by omega))
        have hheld : ∀ q, ((w.drewN (q + 1)).setCells b (4 + K) (bcs S)).cell? ⟨b, 20, none⟩ = some (.int .i64 (K : Int)) := fun q => by
          rw [out_cell (n := S.length) (bcs_len S) (by omega), ← hK]; exact (h.keep (w' := w.drewN (q + 1)) rfl).held
        have hfree : ∀ q, ((w.drewN (q + 1)).setCells b (4 + K) (bcs S)).frozen? ⟨b, 20, none⟩ = false := fun q => by
          rw [World.frozen?_setCells]; exact hl20
        have fin : ∀ q, Tb (((w.drewN (q + 1)).setCells b (4 + K) (bcs S)).setCell ⟨b, 20, none⟩ (.int .i64 ((K : Int) + (S.length : Int)))) b F I (B ++ S) := fun q => by
          rw [← hK]; exact (h.keep (w' := w.drewN (q + 1)) rfl).write S hSl'
        have gro : ∀ q, w.grownBy (((w.drewN (q + 1)).setCells b (4 + K) (bcs S)).setCell ⟨b, 20, none⟩ (.int .i64 ((K : Int) + (S.length : Int)))) (some b) := fun q =>
          tgrown_trans (tgrown_trans (tgrown_drewN w (q + 1) _) (tgrown_sets b _ _ _)) (tgrown_set _ _ _ _)
        rw [hK] at hc0 hSl' hfew
        have hsl := arr_l b K (by omega)
        clear hS hSl e1 e2 e3 hf h
        generalize bcs S = bS at *
        generalize S.length = nS at *
        go_enter Tryz.func109, Tryz.ntmps109
        go_wp2_with fail
        refine hE.mono ?_
        rintro x w1 ⟨rfl, q, rfl⟩
        clear hE
        have hcopy := hcopy q
        have hheld := hheld q
        have hfree := hfree q
        have fin := fin q
        have gro := gro q
        go_wp2_with fail
        go_region
        go_wp2_with fail
        go_ret2
        exact ⟨rfl, fin, gro⟩
end
end Go.Proofs.YtjkneekfijibiabGreatDoor

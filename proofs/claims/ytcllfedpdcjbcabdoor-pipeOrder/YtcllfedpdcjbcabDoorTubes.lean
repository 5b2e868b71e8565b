/- What the functions of package pipe do to a world, each by its Go text. -/
import Derived.Test.YtcllfedpdcjbcabDoorTube
import Derived.Test.YtcllfedpdcjbcabDoorRows
import Derived.WalkLawsBesides
import Derived.Outline
import Derived.RegionTactic
import Derived.ChangeAlike
import Derived.BigQuiet
import Derived.Deep.QuietTactic
namespace Go.Proofs.YtcllfedpdcjbcabDoor
open Go.RowKit

theorem tgrown_set (w : World) (b o : Nat) (v : Value) : w.grownBy (w.setCell ⟨b, o, none⟩ v) (some b) :=
  ⟨rfl, rfl, rfl, by simp [World.setCell], fun k _ h => Below.heap_setCell _ _ _ _ (fun e => h (by rw [e]))⟩
theorem tgrown_sets (b : Nat) : ∀ (vs : List Value) (o : Nat) (w : World), w.grownBy (w.setCells b o vs) (some b)
  | [], _, w => World.grownBy.refl w _
  | v :: r, o, w => by
    rw [World.setCells]
    have h := tgrown_set w b o v
    have k := tgrown_sets b r (o + 1) (w.setCell ⟨b, o, none⟩ v)
    exact ⟨k.os.trans h.os, k.tape.trans h.tape, k.output.trans h.output, Nat.le_trans h.size k.size, fun i hi hn => (k.block i (Nat.lt_of_lt_of_le hi h.size) hn).trans (h.block i hi hn)⟩
theorem drew_cells (b : Nat) : ∀ (vs : List Value) (o : Nat) (w : World), (w.setCells b o vs).drew = w.drew.setCells b o vs
  | [], _, _ => rfl
  | v :: r, o, w => by rw [World.setCells, World.setCells, drew_cells b r]; rfl
theorem tgrown_drew {w w' : World} {r : Option Nat} (h : w.grownBy w' r) : w.grownBy w'.drew r := ⟨h.os, h.tape, h.output, h.size, h.block⟩
theorem tgrown_trans {w w' w'' : World} {r : Option Nat} (h : w.grownBy w' r) (k : w'.grownBy w'' r) : w.grownBy w'' r :=
  ⟨k.os.trans h.os, k.tape.trans h.tape, k.output.trans h.output, Nat.le_trans h.size k.size, fun i hi hn => (k.block i (Nat.lt_of_lt_of_le hi h.size) hn).trans (h.block i hi hn)⟩

/-- Slices of the pipe's own array. -/
theorem arr_l (b K : Nat) (hK : K < 16) (w : World) : (Instr.sliceAt 46 (.pointer (some ⟨b, 4, none⟩)) (some (.int .i64 (K : Int))) none none).run Tryd.prog w = .ok (.slice (some ⟨b, 4 + K, none⟩) (16 - K) (16 - K)) w := by
  have hl : Tryd.prog.arrayLen 46 = 16 := by kernel_rfl
  have he : Tryd.prog.elem 46 = 5 := by kernel_rfl
  have h := run_sliceAt_array_l (P := Tryd.prog) w 46 ⟨b, 4, none⟩ (by kernel_rfl) .i64 (K : Int) (by omega) (by rw [hl]; omega)
  rw [h, hl, he, Tryd.sizeOf5]
  simp only [Result.andThen, slicedAt, Int.toNat_natCast]
  rw [if_neg (by omega), Addr.add_lit, Nat.mul_one]
theorem arr_h (b n : Nat) (hn : n ≤ 16) (w : World) : (Instr.sliceAt 46 (.pointer (some ⟨b, 4, none⟩)) none (some (.int .i64 (n : Int))) none).run Tryd.prog w = .ok (.slice (some ⟨b, 4, none⟩) n 16) w := by
  have hl : Tryd.prog.arrayLen 46 = 16 := by kernel_rfl
  have he : Tryd.prog.elem 46 = 5 := by kernel_rfl
  have h := run_sliceAt_array_h (P := Tryd.prog) w 46 ⟨b, 4, none⟩ (by kernel_rfl) .i64 (n : Int) (by omega) (by rw [hl]; omega)
  rw [h, hl, he, Tryd.sizeOf5]
  simp only [Result.andThen, slicedAt, Int.toNat_natCast]
  rw [if_neg (by omega), Addr.add_lit]
  rfl
theorem arr_lh (b n K : Nat) (hn : n < 16) (hnK : n ≤ K) (hK : K ≤ 16) (w : World) : (Instr.sliceAt 46 (.pointer (some ⟨b, 4, none⟩)) (some (.int .i64 (n : Int))) (some (.int .i64 (K : Int))) none).run Tryd.prog w = .ok (.slice (some ⟨b, 4 + n, none⟩) (K - n) (16 - n)) w := by
  have hl : Tryd.prog.arrayLen 46 = 16 := by kernel_rfl
  have he : Tryd.prog.elem 46 = 5 := by kernel_rfl
  have h := run_sliceAt_array_lh (P := Tryd.prog) w 46 ⟨b, 4, none⟩ (by kernel_rfl) .i64 .i64 (n : Int) (K : Int) (by omega) (by omega) (by rw [hl]; omega)
  rw [h, hl, he, Tryd.sizeOf5]
  simp only [Result.andThen, slicedAt, Int.toNat_natCast]
  rw [if_neg (by omega), Addr.add_lit, Nat.mul_one]
theorem arr_end (b : Nat) (w : World) : (Instr.sliceAt 46 (.pointer (some ⟨b, 4, none⟩)) (some (.int .i64 16)) (some (.int .i64 16)) none).run Tryd.prog w = .ok (.slice (some ⟨b, 4, none⟩) 0 0) w := by
  have hl : Tryd.prog.arrayLen 46 = 16 := by kernel_rfl
  have he : Tryd.prog.elem 46 = 5 := by kernel_rfl
  have h := run_sliceAt_array_lh (P := Tryd.prog) w 46 ⟨b, 4, none⟩ (by kernel_rfl) .i64 .i64 16 16 (by omega) (by omega) (by rw [hl]; omega)
  rw [h, hl, he, Tryd.sizeOf5]
  rfl
theorem arr_all (b : Nat) (w : World) : (Instr.sliceAt 46 (.pointer (some ⟨b, 4, none⟩)) none none none).run Tryd.prog w = .ok (.slice (some ⟨b, 4, none⟩) 16 16) w := by
  have hl : Tryd.prog.arrayLen 46 = 16 := by kernel_rfl
  have he : Tryd.prog.elem 46 = 5 := by kernel_rfl
  have h := run_sliceAt_array_all (P := Tryd.prog) w 46 ⟨b, 4, none⟩ (by kernel_rfl)
  rw [h, hl, he, Tryd.sizeOf5]
  rfl

section
variable {w : World} {b : Nat} {F I : Int} {B : List UInt8}

set_option maxHeartbeats 400000 in
theorem thas (w : World) (b : Nat) (e : Int) :
    Calls Tryd.prog 44 #[tp b, .int .i64 e] w fun x w' => x = .returned (.bool (decide (e = 2 ∨ e = 3))) ∧ w' = w := by
  by_cases h2 : e = 2
  · subst h2
    go_enter Tryd.func44, Tryd.ntmps44
    go_wp2
    go_ret
    exact ⟨rfl, rfl⟩
  · by_cases h3 : e = 3
    · subst h3
      go_enter Tryd.func44, Tryd.ntmps44
      go_wp2
      go_ret
      exact ⟨rfl, rfl⟩
    · rw [decide_eq_false (show ¬ (e = 2 ∨ e = 3) by omega)]
      go_enter Tryd.func44, Tryd.ntmps44
      go_wp2
      go_ret
      exact ⟨by simp [h2, h3], rfl⟩

theorem thas_not (w : World) (b : Nat) (e : Int) (h : ¬ (e = 2 ∨ e = 3)) : Calls Tryd.prog 44 #[tp b, .int .i64 e] w fun x w' => x = .returned (.bool false) ∧ w' = w := by
  have := thas w b e; rw [decide_eq_false h] at this; exact this
theorem thas_yes (w : World) (b : Nat) (e : Int) (h : e = 2 ∨ e = 3) : Calls Tryd.prog 44 #[tp b, .int .i64 e] w fun x w' => x = .returned (.bool true) ∧ w' = w := by
  have := thas w b e; rw [decide_eq_true h] at this; exact this

set_option maxHeartbeats 400000 in
theorem Tb.ends (h : Tb w b F I B) : Calls Tryd.prog 25 #[tp b] w fun x w' => x = .returned (.tuple #[.int .i64 F, .int .i64 I]) ∧ ∃ q, w' = w.drewN q := by
  have c1 := h.frm
  have c2 := h.int
  go_enter Tryd.func25, Tryd.ntmps25
  go_wp2
  go_quiet (fail)
  go_wp2
  go_ret2
  exact ⟨rfl, _, rfl⟩

set_option maxHeartbeats 400000 in
theorem Tb.len (h : Tb w b F I B) : Calls Tryd.prog 26 #[tp b] w fun x w' => x = .returned (.int .i64 (B.length : Int)) ∧ w' = w := by
  have c1 := h.held
  go_enter Tryd.func26, Tryd.ntmps26
  go_wp2
  go_ret
  exact ⟨rfl, rfl⟩

set_option maxHeartbeats 1000000 in
theorem Tb.open_ok (h : Tb w b F I B) (e : Int) (hF : 0 ≤ F) (hF' : F < 1000) (hI : 0 ≤ I) (hI' : I < 1000) :
    Calls Tryd.prog 18 #[tp b, .int .i64 e] w fun x w' => x = .returned (erT (opE e)) ∧ Tb w' b (opF F e) (opI I e) B ∧ w.grownBy w' (some b) := by
  have c1 := h.frm
  have c2 := h.int
  have l2 := h.live 2 (by omega)
  have l3 := h.live 3 (by omega)
  by_cases h2 : e = 2
  · subst h2
    go_enter Tryd.func18, Tryd.ntmps18
    go_wp2_with (go_at_call 44; refine (thas_yes _ b 2 (by omega)).mono ?_; rintro x w' ⟨rfl, rfl⟩)
    go_region
    go_wp2
    go_ret
    exact ⟨rfl, (h.putF (F + 1)).keep rfl, tgrown_drew (tgrown_set _ _ _ _)⟩
  · by_cases h3 : e = 3
    · subst h3
      go_enter Tryd.func18, Tryd.ntmps18
      go_wp2_with (go_at_call 44; refine (thas_yes _ b 3 (by omega)).mono ?_; rintro x w' ⟨rfl, rfl⟩)
      go_region
      go_wp2
      go_ret
      exact ⟨rfl, (h.putI (I + 1)).keep rfl, tgrown_drew (tgrown_set _ _ _ _)⟩
    · have e1 : opE e = 1 := by unfold opE; rw [if_neg (by omega)]
      have e2 : opF F e = F := by unfold opF; rw [if_neg h2]
      have e3 : opI I e = I := by unfold opI; rw [if_neg h3]
      rw [e1, e2, e3]
      go_enter Tryd.func18, Tryd.ntmps18
      go_wp2_with (go_at_call 44; refine (thas_not _ b e (by omega)).mono ?_; rintro x w' ⟨rfl, rfl⟩)
      go_ret
      exact ⟨rfl, h, World.grownBy.refl _ _⟩
end
end Go.Proofs.YtcllfedpdcjbcabDoor

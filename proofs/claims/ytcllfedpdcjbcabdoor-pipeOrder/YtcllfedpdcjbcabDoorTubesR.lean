/- What the document's own pipe does to a world, each call by its Go text. -/
import Derived.Test.YtcllfedpdcjbcabDoorTubes
namespace Go.Proofs.YtcllfedpdcjbcabDoor
open Go.RowKit

theorem text_h (s : List UInt8) (n : Nat) (hn : n ≤ s.length) (w : World) : (Instr.slice 9 (txt s) none (some (.int .i64 (n : Int))) none).run Tryd.prog w = .ok (txt (s.take n)) w := by
  have hs : (⟨s.toArray⟩ : ByteArray).size = s.length := by simp [ByteArray.size]
  have e : (⟨s.toArray⟩ : ByteArray).extract 0 n = ⟨(s.take n).toArray⟩ := by apply ByteArray.ext; simp
  simp [Instr.slice, run_underlying Tryd.underlying9, Instr.sliceBounds, run_sliceBound, hs, hn, e]
theorem text_l (s : List UInt8) (n : Nat) (hn : n ≤ s.length) (w : World) : (Instr.slice 9 (txt s) (some (.int .i64 (n : Int))) none none).run Tryd.prog w = .ok (txt (s.drop n)) w := by
  have hs : (⟨s.toArray⟩ : ByteArray).size = s.length := by simp [ByteArray.size]
  have e : (⟨s.toArray⟩ : ByteArray).extract n s.length = ⟨(s.drop n).toArray⟩ := by
    apply ByteArray.ext
    simp only [ByteArray.data_extract]
    rw [List.extract_toArray]
    simp [List.extract, List.take_of_length_le]
  simp [Instr.slice, run_underlying Tryd.underlying9, Instr.sliceBounds, run_sliceBound, hs, hn, e]

section
variable {w : World} {b : Nat} {F I : Int} {B : List UInt8}

set_option maxHeartbeats 1000000 in
theorem Rt.open_ok (h : Rt w b F I B) (e : Int) (hF : 0 ≤ F) (hF' : F < 1000) (hI : 0 ≤ I) (hI' : I < 1000) :
    Calls Tryd.prog 19 #[tp b, .int .i64 e, .int .i64 1] w fun x w' => x = .returned (.int .i64 (opE e)) ∧ Rt w' b (opF F e) (opI I e) B ∧ w.grownBy w' (some b) := by
  have c1 := h.frm
  have c2 := h.int
  have l1 := h.live 1 (by omega)
  have l2 := h.live 2 (by omega)
  by_cases h2 : e = 2
  · subst h2
    have hg : ¬ F + 1 < 0 := by omega
    go_enter Tryd.func19, Tryd.ntmps19
    go_wp2
    go_ret
    exact ⟨rfl, h.putF (F + 1), tgrown_set _ _ _ _⟩
  · by_cases h3 : e = 3
    · subst h3
      have hg : ¬ I + 1 < 0 := by omega
      go_enter Tryd.func19, Tryd.ntmps19
      go_wp2
      go_ret
      exact ⟨rfl, h.putI (I + 1), tgrown_set _ _ _ _⟩
    · have e1 : opE e = 1 := by unfold opE; rw [if_neg (by omega)]
      have e2 : opF F e = F := by unfold opF; rw [if_neg h2]
      have e3 : opI I e = I := by unfold opI; rw [if_neg h3]
      have q2 : (e == 2) = false := by simp [h2]
      have q3 : (e == 3) = false := by simp [h3]
      rw [e1, e2, e3]
      go_enter Tryd.func19, Tryd.ntmps19
      go_wp2
      go_ret
      exact ⟨rfl, h, World.grownBy.refl _ _⟩

set_option maxHeartbeats 1000000 in
theorem Rt.close_ok (h : Rt w b F I B) (e : Int) (hF : 0 ≤ F) (hF' : F < 1000) (hI : 0 ≤ I) (hI' : I < 1000) :
    Calls Tryd.prog 19 #[tp b, .int .i64 e, .int .i64 (-1)] w fun x w' => x = .returned (.int .i64 (clE F I e)) ∧ Rt w' b (clF F e) (clI I e) B ∧ w.grownBy w' (some b) := by
  have c1 := h.frm
  have c2 := h.int
  have l1 := h.live 1 (by omega)
  have l2 := h.live 2 (by omega)
  by_cases h2 : e = 2
  · subst h2
    by_cases hz : F = 0
    · subst hz
      go_enter Tryd.func19, Tryd.ntmps19
      go_wp2
      go_ret
      exact ⟨rfl, h, World.grownBy.refl _ _⟩
    · have e1 : clE F I 2 = 0 := by unfold clE; rw [if_pos rfl, if_neg hz]
      have e2 : clF F 2 = F - 1 := by unfold clF; rw [if_pos ⟨rfl, hz⟩]
      have e3 : clI I 2 = I := by unfold clI; rw [if_neg (by omega)]
      have hg : ¬ F + -1 < 0 := by omega
      rw [e1, e2, e3]
      go_enter Tryd.func19, Tryd.ntmps19
      go_wp2
      go_ret
      exact ⟨rfl, h.putF (F - 1), tgrown_set _ _ _ _⟩
  · by_cases h3 : e = 3
    · subst h3
      by_cases hz : I = 0
      · subst hz
        go_enter Tryd.func19, Tryd.ntmps19
        go_wp2
        go_ret
        exact ⟨rfl, h, World.grownBy.refl _ _⟩
      · have e1 : clE F I 3 = 0 := by unfold clE; rw [if_neg (by omega), if_pos rfl, if_neg hz]
        have e2 : clF F 3 = F := by unfold clF; rw [if_neg (by omega)]
        have e3 : clI I 3 = I - 1 := by unfold clI; rw [if_pos ⟨rfl, hz⟩]
        have hg : ¬ I + -1 < 0 := by omega
        rw [e1, e2, e3]
        go_enter Tryd.func19, Tryd.ntmps19
        go_wp2
        go_ret
        exact ⟨rfl, h.putI (I - 1), tgrown_set _ _ _ _⟩
    · have e1 : clE F I e = 1 := by unfold clE; rw [if_neg h2, if_neg h3]
      have e2 : clF F e = F := by unfold clF; rw [if_neg (by omega)]
      have e3 : clI I e = I := by unfold clI; rw [if_neg (by omega)]
      have q2 : (e == 2) = false := by simp [h2]
      have q3 : (e == 3) = false := by simp [h3]
      rw [e1, e2, e3]
      go_enter Tryd.func19, Tryd.ntmps19
      go_wp2
      go_ret
      exact ⟨rfl, h, World.grownBy.refl _ _⟩
end
end Go.Proofs.YtcllfedpdcjbcabDoor

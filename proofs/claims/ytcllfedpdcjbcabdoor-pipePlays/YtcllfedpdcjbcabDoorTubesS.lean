/- What Write and Read of the document's own pipe do to a world, each by its Go text. -/
import Derived.Test.YtcllfedpdcjbcabDoorTubesR
namespace Go.Proofs.YtcllfedpdcjbcabDoor
open Go.RowKit

theorem text_cat (a b : List UInt8) : ((⟨a.toArray⟩ : ByteArray) ++ ⟨b.toArray⟩) = ⟨(a ++ b).toArray⟩ := by apply ByteArray.ext; simp

section
variable {w : World} {b : Nat} {F I : Int} {B : List UInt8}

set_option maxHeartbeats 2000000 in
theorem Rt.write_ok (h : Rt w b F I B) (s : List UInt8) (hs100 : s.length ≤ 1000) :
    Calls Tryd.prog 21 #[tp b, txt s] w fun x w' => x = .returned (.tuple #[.int .i64 (wrN F B s : Int), .int .i64 (wrE F B s)]) ∧ Rt w' b F I (wrB F B s) ∧ w.grownBy w' (some b) := by
  have c0 := h.text
  have c1 := h.frm
  have l0 := h.live 0 (by omega)
  have hfew := h.few
  by_cases hz : F = 0
  · subst hz
    go_enter Tryd.func21, Tryd.ntmps21
    go_wp2
    go_ret2
    exact ⟨rfl, h, World.grownBy.refl _ _⟩
  · have hq : (F == 0) = false := by simp [hz]
    by_cases hs : s = []
    · subst hs
      have e1 : wrE F B [] = 0 := by unfold wrE; rw [if_neg hz, if_pos rfl]
      have e2 : wrN F B [] = 0 := by unfold wrN; rw [if_neg hz]; simp
      have e3 : wrB F B [] = B := by unfold wrB; rw [if_neg hz]; simp
      rw [e1, e2, e3]
      go_enter Tryd.func21, Tryd.ntmps21
      go_wp2
      go_ret2
      exact ⟨rfl, h, World.grownBy.refl _ _⟩
    · have hsq : s.isEmpty = false := by cases s with
        | nil => exact absurd rfl hs
        | cons _ _ => rfl
      by_cases hf : B.length = 16
      · have e1 : wrE F B s = 12 := by unfold wrE; rw [if_neg hz, if_neg hs, if_pos hf]
        have e2 : wrN F B s = 0 := by unfold wrN; rw [if_neg hz, hf]; simp
        have e3 : wrB F B s = B := by unfold wrB; rw [if_neg hz, hf]; simp
        rw [e1, e2, e3]
        go_enter Tryd.func21, Tryd.ntmps21
        go_wp2
        go_ret2
        exact ⟨rfl, h, World.grownBy.refl _ _⟩
      · have e1 : wrE F B s = 0 := by unfold wrE; rw [if_neg hz, if_neg hs, if_neg hf]
        obtain ⟨S, hS⟩ : ∃ S, s.take (16 - B.length) = S := ⟨_, rfl⟩
        have hSl : S.length = min s.length (16 - B.length) := by rw [← hS, List.length_take]; exact Nat.min_comm _ _
        have e2 : wrN F B s = S.length := by unfold wrN; rw [if_neg hz, hSl]
        have e3 : wrB F B s = B ++ S := by unfold wrB; rw [if_neg hz, hS]
        rw [e1, e2, e3]
        have hcat := text_cat B S
        have hfin := h.putB (B ++ S) (by rw [List.length_append]; omega)
        generalize B ++ S = BS at *
        by_cases hgt : (16 : Int) - (B.length : Int) < (s.length : Int)
        · have hsl := text_h s (16 - B.length) (by omega)
          rw [hS, show ((16 - B.length : Nat) : Int) = 16 - (B.length : Int) by omega] at hsl
          have hr : ((16 : Int) - (B.length : Int) == 0) = false := by simp; omega
          have hc : ¬ 9223372036854775807 < B.length + S.length := by omega
          clear hS hSl
          go_enter Tryd.func21, Tryd.ntmps21
          go_wp2
          go_ret2
          exact ⟨rfl, hfin, tgrown_set _ _ _ _⟩
        · have hSs : S = s := by rw [← hS]; exact List.take_of_length_le (by omega)
          subst hSs
          have hr : ((16 : Int) - (B.length : Int) == 0) = false := by simp; omega
          have hc : ¬ 9223372036854775807 < B.length + S.length := by omega
          clear hS hSl
          go_enter Tryd.func21, Tryd.ntmps21
          go_wp2
          go_ret2
          exact ⟨rfl, hfin, tgrown_set _ _ _ _⟩

set_option maxHeartbeats 2000000 in
theorem Rt.read_ok (h : Rt w b F I B) (n : Int) :
    Calls Tryd.prog 23 #[tp b, .int .i64 n] w fun x w' => x = .returned (.tuple #[txt (B.take n.toNat), .int .i64 (rdE I B n)]) ∧ Rt w' b F I (B.drop n.toNat) ∧ w.grownBy w' (some b) := by
  have c0 := h.text
  have c2 := h.int
  have l0 := h.live 0 (by omega)
  have hfew := h.few
  by_cases h0 : n < 0
  · have e1 : rdE I B n = 2 := by unfold rdE; rw [if_pos h0]
    have e2 : n.toNat = 0 := by omega
    rw [e1, e2, List.take_zero, List.drop_zero]
    go_enter Tryd.func23, Tryd.ntmps23
    go_wp2
    go_ret2
    exact ⟨rfl, h, World.grownBy.refl _ _⟩
  · by_cases hz : n = 0
    · subst hz
      go_enter Tryd.func23, Tryd.ntmps23
      go_wp2
      go_ret2
      exact ⟨rfl, h, World.grownBy.refl _ _⟩
    · have hnq : (n == 0) = false := by simp [hz]
      by_cases hB : B = [] ∧ 0 < I
      · obtain ⟨rfl, hI0⟩ := hB
        have e1 : rdE I [] n = 8 := by unfold rdE; rw [if_neg h0, if_neg hz, if_pos ⟨rfl, hI0⟩]
        rw [e1, List.take_nil, List.drop_nil]
        go_enter Tryd.func23, Tryd.ntmps23
        go_wp2
        go_ret2
        exact ⟨rfl, h, World.grownBy.refl _ _⟩
      · have e1 : rdE I B n = 0 := by unfold rdE; rw [if_neg h0, if_neg hz, if_neg hB]
        rw [e1]
        have hfin := h.putB (B.drop n.toNat) (by rw [List.length_drop]; omega)
        have hg : B.isEmpty = true ∧ ¬ 0 < I ∨ B.isEmpty = false := by
          cases B with
          | nil => exact .inl ⟨rfl, fun e => hB ⟨rfl, e⟩⟩
          | cons _ _ => exact .inr rfl
        clear hB e1
        by_cases hgt : (B.length : Int) < n
        · have e2 : B.take n.toNat = B := List.take_of_length_le (by omega)
          have e3 : B.drop n.toNat = [] := List.drop_eq_nil_of_le (by omega)
          rw [e3] at hfin
          rw [e2, e3]
          have hs1 := text_h B B.length (Nat.le_refl _)
          have hs2 := text_l B B.length (Nat.le_refl _)
          rw [List.take_of_length_le (Nat.le_refl _)] at hs1
          rw [List.drop_eq_nil_of_le (Nat.le_refl _)] at hs2
          clear e2 e3
          rcases hg with ⟨g1, g2⟩ | g1
          all_goals
            go_enter Tryd.func23, Tryd.ntmps23
            go_wp2
            go_ret2
            exact ⟨rfl, hfin, tgrown_set _ _ _ _⟩
        · have hs1 := text_h B n.toNat (by omega)
          have hs2 := text_l B n.toNat (by omega)
          rw [show ((n.toNat : Nat) : Int) = n by omega] at hs1 hs2
          generalize B.take n.toNat = T at *
          generalize B.drop n.toNat = E at *
          rcases hg with ⟨g1, g2⟩ | g1
          all_goals
            go_enter Tryd.func23, Tryd.ntmps23
            go_wp2
            go_ret2
            exact ⟨rfl, hfin, tgrown_set _ _ _ _⟩
end
end Go.Proofs.YtcllfedpdcjbcabDoor

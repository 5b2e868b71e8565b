/- What Close, Write and Read of package pipe do to a world, each by its Go text. -/
import Derived.Test.YtcllfedpdcjbcabDoorTubes
namespace Go.Proofs.YtcllfedpdcjbcabDoor
open Go.RowKit

section
variable {w : World} {b : Nat} {F I : Int} {B : List UInt8}

set_option maxHeartbeats 1000000 in
theorem Tb.close_ok (h : Tb w b F I B) (e : Int) (hF : 0 ≤ F) (hF' : F < 1000) (hI : 0 ≤ I) (hI' : I < 1000) :
    Calls Tryd.prog 20 #[tp b, .int .i64 e] w fun x w' => x = .returned (erT (clE F I e)) ∧ Tb w' b (clF F e) (clI I e) B ∧ w.grownBy w' (some b) := by
  have c1 := h.frm
  have c2 := h.int
  have l2 := h.live 2 (by omega)
  have l3 := h.live 3 (by omega)
  by_cases h2 : e = 2
  · subst h2
    by_cases hz : F = 0
    · subst hz
      go_enter Tryd.func20, Tryd.ntmps20
      go_wp2_with (go_at_call 44; refine (thas_yes _ b 2 (by omega)).mono ?_; rintro x w' ⟨rfl, rfl⟩)
      go_ret
      exact ⟨rfl, h, World.grownBy.refl _ _⟩
    · have e1 : clE F I 2 = 0 := by unfold clE; rw [if_pos rfl, if_neg hz]
      have e2 : clF F 2 = F - 1 := by unfold clF; rw [if_pos ⟨rfl, hz⟩]
      have e3 : clI I 2 = I := by unfold clI; rw [if_neg (by omega)]
      have hq : (F == 0) = false := by simp [hz]
      rw [e1, e2, e3]
      go_enter Tryd.func20, Tryd.ntmps20
      go_wp2_with (go_at_call 44; refine (thas_yes _ b 2 (by omega)).mono ?_; rintro x w' ⟨rfl, rfl⟩)
      go_region
      go_wp2
      go_ret
      exact ⟨rfl, (h.putF (F - 1)).keep rfl, tgrown_drew (tgrown_set _ _ _ _)⟩
  · by_cases h3 : e = 3
    · subst h3
      by_cases hz : I = 0
      · subst hz
        go_enter Tryd.func20, Tryd.ntmps20
        go_wp2_with (go_at_call 44; refine (thas_yes _ b 3 (by omega)).mono ?_; rintro x w' ⟨rfl, rfl⟩)
        go_ret
        exact ⟨rfl, h, World.grownBy.refl _ _⟩
      · have e1 : clE F I 3 = 0 := by unfold clE; rw [if_neg (by omega), if_pos rfl, if_neg hz]
        have e2 : clF F 3 = F := by unfold clF; rw [if_neg (by omega)]
        have e3 : clI I 3 = I - 1 := by unfold clI; rw [if_pos ⟨rfl, hz⟩]
        have hq : (I == 0) = false := by simp [hz]
        rw [e1, e2, e3]
        go_enter Tryd.func20, Tryd.ntmps20
        go_wp2_with (go_at_call 44; refine (thas_yes _ b 3 (by omega)).mono ?_; rintro x w' ⟨rfl, rfl⟩)
        go_region
        go_wp2
        go_ret
        exact ⟨rfl, (h.putI (I - 1)).keep rfl, tgrown_drew (tgrown_set _ _ _ _)⟩
    · have e1 : clE F I e = 1 := by unfold clE; rw [if_neg h2, if_neg h3]
      have e2 : clF F e = F := by unfold clF; rw [if_neg (by omega)]
      have e3 : clI I e = I := by unfold clI; rw [if_neg (by omega)]
      rw [e1, e2, e3]
      go_enter Tryd.func20, Tryd.ntmps20
      go_wp2_with (go_at_call 44; refine (thas_not _ b e (by omega)).mono ?_; rintro x w' ⟨rfl, rfl⟩)
      go_ret
      exact ⟨rfl, h, World.grownBy.refl _ _⟩

theorem tgrown_drewN (w : World) (q : Nat) (r : Option Nat) : w.grownBy (w.drewN q) r := ⟨rfl, rfl, rfl, Nat.le_refl _, fun _ _ _ => rfl⟩

set_option maxHeartbeats 2000000 in
theorem Tb.write_ok (h : Tb w b F I B) (s : List UInt8) :
    Calls Tryd.prog 22 #[tp b, txt s] w fun x w' => x = .returned (.tuple #[.int .i64 (wrN F B s : Int), erT (wrE F B s)]) ∧ Tb w' b F I (wrB F B s) ∧ w.grownBy w' (some b) := by
  have hE := h.ends
  by_cases hz : F = 0
  · subst hz
    go_enter Tryd.func22, Tryd.ntmps22
    go_wp2_with fail
    refine hE.mono ?_
    rintro x w1 ⟨rfl, q, rfl⟩
    go_wp2_with fail
    go_ret2
    exact ⟨rfl, h.keep rfl, tgrown_drewN _ _ _⟩
  · have hq : (F == 0) = false := by simp [hz]
    by_cases hs : s = []
    · subst hs
      have e1 : wrE F B [] = 0 := by unfold wrE; rw [if_neg hz, if_pos rfl]
      have e2 : wrN F B [] = 0 := by unfold wrN; rw [if_neg hz]; simp
      have e3 : wrB F B [] = B := by unfold wrB; rw [if_neg hz]; simp
      rw [e1, e2, e3]
      go_enter Tryd.func22, Tryd.ntmps22
      go_wp2_with fail
      refine hE.mono ?_
      rintro x w1 ⟨rfl, q, rfl⟩
      go_wp2_with fail
      go_ret2
      exact ⟨rfl, h.keep rfl, tgrown_drewN _ _ _⟩
    · have hsq : s.isEmpty = false := by cases s with
        | nil => exact absurd rfl hs
        | cons _ _ => rfl
      have hc0 := h.held
      by_cases hf : B.length = 16
      · have e1 : wrE F B s = 12 := by unfold wrE; rw [if_neg hz, if_neg hs, if_pos hf]
        have e2 : wrN F B s = 0 := by unfold wrN; rw [if_neg hz, hf]; simp
        have e3 : wrB F B s = B := by unfold wrB; rw [if_neg hz, hf]; simp
        rw [hf] at hc0
        rw [e1, e2, e3]
        go_enter Tryd.func22, Tryd.ntmps22
        go_wp2_with fail
        refine hE.mono ?_
        rintro x w1 ⟨rfl, q, rfl⟩
        go_wp2_with fail
        go_ret2
        exact ⟨rfl, h.keep rfl, tgrown_drewN _ _ _⟩
      · have hfew := h.few
        have e1 : wrE F B s = 0 := by unfold wrE; rw [if_neg hz, if_neg hs, if_neg hf]
        obtain ⟨S, hS⟩ : ∃ S, s.take (16 - B.length) = S := ⟨_, rfl⟩
        have hSl : S.length = min s.length (16 - B.length) := by rw [← hS, List.length_take]; exact Nat.min_comm _ _
        have e2 : wrN F B s = S.length := by unfold wrN; rw [if_neg hz, hSl]
        have e3 : wrB F B s = B ++ S := by unfold wrB; rw [if_neg hz, hS]
        rw [e1, e2, e3]
        have hSl' : B.length + S.length ≤ 16 := by omega
        obtain ⟨K, hK⟩ : ∃ K, B.length = K := ⟨_, rfl⟩
        have hfq : ((K : Int) == 16) = false := by simp; omega
        have hl20 := h.live 20 (by omega)
        have hcopy : ∀ q ty, (Builtin.copy_ #[106, 9] ty #[.slice (some ⟨b, 4 + K, none⟩) (16 - K) (16 - K), txt s]).run Tryd.prog (w.drewN (q + 1)) = .ok (.int .i64 (S.length : Int)) ((w.drewN (q + 1)).setCells b (4 + K) (bcs S)) := fun q ty => by
          rw [← hS, ← hK]
          exact run_copy_text (w.drewN (q + 1)) 106 9 ty 5 b (4 + B.length) (16 - B.length) (16 - B.length) s Tryd.underlying106 (fun _ => Tryd.sizeOf5 _) ((h.keep (w' := w.drewN (q + 1)) rfl).some_at _ _ (by omega) (by omega)) ((h.keep (w' := w.drewN (q + 1)) rfl).free_at _ _ (by omega))
        have hheld : ∀ q, ((w.drewN (q + 1)).setCells b (4 + K) (bcs S)).cell? ⟨b, 20, none⟩ = some (.int .i64 (K : Int)) := fun q => by
          rw [out_cell (n := S.length) (bcs_len S) (by omega), ← hK]; exact (h.keep (w' := w.drewN (q + 1)) rfl).held
        have hfree : ∀ q, ((w.drewN (q + 1)).setCells b (4 + K) (bcs S)).frozen? ⟨b, 20, none⟩ = false := fun q => by
          rw [World.frozen?_setCells]; exact hl20
        have fin : ∀ q, Tb (((w.drewN (q + 1)).setCells b (4 + K) (bcs S)).setCell ⟨b, 20, none⟩ (.int .i64 ((K : Int) + (S.length : Int)))) b F I (B ++ S) := fun q => by
          rw [← hK]; exact (h.keep (w' := w.drewN (q + 1)) rfl).write S hSl'
        have gro : ∀ q, w.grownBy (((w.drewN (q + 1)).setCells b (4 + K) (bcs S)).setCell ⟨b, 20, none⟩ (.int .i64 ((K : Int) + (S.length : Int)))) (some b) := fun q =>
          tgrown_trans (tgrown_trans (tgrown_drewN w (q + 1) _) (tgrown_sets b _ _ _)) (tgrown_set _ _ _ _)
        rw [hK] at hc0 hSl' hfew
        have hsl := arr_l b K (by omega)
        clear hS hSl e1 e2 e3 hf h
        generalize bcs S = bS at *
        generalize S.length = nS at *
        go_enter Tryd.func22, Tryd.ntmps22
        go_wp2_with fail
        refine hE.mono ?_
        rintro x w1 ⟨rfl, q, rfl⟩
        clear hE
        have hcopy := hcopy q
        have hheld := hheld q
        have hfree := hfree q
        have fin := fin q
        have gro := gro q
        go_wp2_with fail
        go_region
        go_wp2_with fail
        go_ret2
        exact ⟨rfl, fin, gro⟩
end
end Go.Proofs.YtcllfedpdcjbcabDoor

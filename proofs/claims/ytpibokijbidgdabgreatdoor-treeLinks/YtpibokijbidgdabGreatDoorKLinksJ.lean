/- TreeLinks: the names that are left, in the root and in the list. -/
import Derived.Test.YtpibokijbidgdabGreatDoorKLinks3
import Derived.Test.YtpibokijbidgdabGreatDoorKCutT
namespace Go.Proofs.YtpibokijbidgdabGreatDoor
open Go.RowKit Go.Maps

structure LJ (J J2 : List Nat) : Prop where
  lt : ∀ x ∈ J, x < 20
  mem : ∀ x, x ∈ J2 ↔ x ∈ J
  nd : J2.Nodup
section
variable {J J2 : List Nat} {k : Nat}
theorem LJ.at (h : LJ J J2) (hk : k < J2.length) : J2[k] ∈ J := (h.mem _).1 (List.getElem_mem hk)
theorem LJ.none (h : LJ J []) : J = [] := by
  cases J with
  | nil => rfl
  | cons a J => exact absurd ((h.mem a).2 List.mem_cons_self) (by simp)
theorem LJ.some (h : LJ J J2) (hk : k < J2.length) : J ≠ [] := fun e => by have := h.at hk; rw [e] at this; cases this
theorem LJ.cut (h : LJ J J2) (hk : k < J2.length) : LJ (J.filter (fun i => i != J2[k])) (J2.take k ++ J2.drop (k + 1)) := by
  have e : J2 = J2.take k ++ J2[k] :: J2.drop (k + 1) := by rw [List.getElem_cons_drop, List.take_append_drop]
  have hn := h.nd
  rw [e, List.nodup_append] at hn
  obtain ⟨n1, n2, n3⟩ := hn
  obtain ⟨n4, n5⟩ := List.nodup_cons.1 n2
  refine ⟨fun x hx => h.lt x (List.mem_filter.1 hx).1, fun x => ?_, ?_⟩
  · rw [List.mem_filter, ← h.mem x]
    constructor
    · intro hx
      rcases List.mem_append.1 hx with hx | hx
      · refine ⟨List.mem_of_mem_take hx, ?_⟩
        have := n3 x hx J2[k] List.mem_cons_self
        simpa using this
      · refine ⟨List.mem_of_mem_drop hx, ?_⟩
        simp
        intro ex
        exact n4 (ex ▸ hx)
    · rintro ⟨hx, hne⟩
      rw [e] at hx
      simp only [bne_iff_ne] at hne
      rcases List.mem_append.1 hx with hx | hx
      · exact List.mem_append.2 (.inl hx)
      · rcases List.mem_cons.1 hx with hx | hx
        · exact absurd hx hne
        · exact List.mem_append.2 (.inr hx)
  · rw [List.nodup_append]
    exact ⟨n1, n5, fun a ha b hb => n3 a ha b (List.mem_cons_of_mem _ hb)⟩
theorem LJ.first {M : Nat} (h0 : M ≠ 0) (h : M ≤ 20) : LJ (js M) (List.range M) := by
  unfold js
  rw [if_neg h0]
  refine ⟨fun x hx => ?_, fun x => by simp, List.nodup_range⟩
  simp at hx
  omega
theorem pth_cut : (J2.map pth).take k ++ (J2.map pth).drop (k + 1) = (J2.take k ++ J2.drop (k + 1)).map pth := by
  rw [List.map_append, List.map_take, List.map_drop]
end
section
variable {w wr : World} {m : Int} {r k : Nat} {v : Value} {L : List Nm} {s : List UInt8}
theorem KR.readGone (h : KR w m r k (lT [] s) v L wr) :
    Calls Tryz.prog 18 #[wp r, .int .i64 1, .int .i64 0, .int .i64 1] wr fun e w' => e = .returned (.tuple #[tx [], uer 7]) ∧ KR w m r k nullT v L w' := by
  rw [lT_nil] at h
  obtain ⟨O, h1, _⟩ := h.st
  refine (h1.read_ok 1 0 1 (wf_few (by omega) (by omega))).mono ?_
  rintro e w' ⟨rfl, q, rfl⟩
  exact ⟨rfl, h.below ⟨rfl, rfl, rfl, Nat.le_refl _, fun _ _ => rfl⟩⟩
end
end Go.Proofs.YtpibokijbidgdabGreatDoor

/- A name less, plainly and in memory. -/
import Derived.Test.YtpibokijbidgdabGreatDoorWSweep2
namespace Go.Proofs.YtpibokijbidgdabGreatDoor
open Go.RowKit Go.Maps

section
variable {w w' : World} {r gN s : Nat} {T : Wd} {G : Int → Nat}
/-- A name taken. -/
theorem RTr.del (h : RTr w r gN s T G) (hT : TrOk T) {d : Int} {nm : Nm} {C : List (Nm × Int)} (hd : T d = some (.dir C)) (hyes : (C.lookup nm).isSome = true) (hg : w.grownBy w' (some (G d)))
    (sm : SMap w' (G d) (if ((C.lookup nm).map (Value.int .i64 ·)).isSome then C.length - 1 else C.length) (fun i => if i = nm then none else (C.lookup i).map (.int .i64 ·))) : RTr w' r gN s (delT T d nm) G := by
  have hk : ∀ i, i < w.heap.size → i ≠ G d → w'.heap[i]? = w.heap[i]? := fun i hi hne => hg.block i hi (fun e => hne (Option.some.inj e))
  have hrG : r ≠ G d := by
    intro e
    obtain ⟨es, cl, hm⟩ := (h.dirs d C hd).isMap
    rw [← e, h.head] at hm; cases hm
  rw [delT_eq hd]
  have hold : ∀ k D, setT T d (.dir (C.filter (fun x => x.1 != nm))) k = some (.dir D) → (k = d ∧ D = C.filter (fun x => x.1 != nm)) ∨ (k ≠ d ∧ T k = some (.dir D)) := fun k D e => by
    by_cases e1 : k = d
    · subst e1; rw [setT_same] at e; cases e; exact .inl ⟨rfl, rfl⟩
    · rw [setT_other _ e1] at e; exact .inr ⟨e1, e⟩
  have hsome : ∀ k D, setT T d (.dir (C.filter (fun x => x.1 != nm))) k = some (.dir D) → ∃ D', T k = some (.dir D') := fun k D e => by
    rcases hold k D e with ⟨rfl, _⟩ | ⟨_, e⟩
    · exact ⟨C, hd⟩
    · exact ⟨D, e⟩
  refine ⟨(hk r (h.lt (.inl rfl)) hrG).trans h.head, ?_, ?_, fun k D e => ?_, fun k k' D D' e e' hG => ?_⟩
  · have e : (fun k => (setT T d (.dir (C.filter (fun x => x.1 != nm))) k).map (ndv G k)) = fun k => (T k).map (ndv G k) := by
      funext k; unfold setT; by_cases e1 : k = d
      · subst e1; simp [hd, ndv]
      · simp [e1]
    rw [e]
    exact h.map.keep (hk gN h.map.lt (fun e => h.sep d C hd e.symm))
  · intro k D e
    rcases hold k D e with ⟨rfl, rfl⟩ | ⟨e1, e⟩
    · rw [if_pos (by rw [Option.isSome_map]; exact hyes)] at sm
      rw [filter_len (hT.nodup k C hd) hyes]
      have e2 : (fun i => if i = nm then none else (C.lookup i).map (Value.int .i64 ·)) = fun i => ((C.filter (fun x => x.1 != nm)).lookup i).map (Value.int .i64 ·) := by
        funext i
        rw [lookup_del]
        by_cases ei : i = nm <;> simp [ei]
      rw [e2] at sm
      exact sm
    · exact (h.dirs k D e).keep (hk _ (h.dirs k D e).lt (fun e2 => e1 (h.inj k d D C e hd e2)))
  · obtain ⟨D', e'⟩ := hsome k D e
    exact h.sep k D' e'
  · obtain ⟨D1, e1⟩ := hsome k D e
    obtain ⟨D2, e2⟩ := hsome k' D' e'
    exact h.inj k k' D1 D2 e1 e2 hG
end
end Go.Proofs.YtpibokijbidgdabGreatDoor

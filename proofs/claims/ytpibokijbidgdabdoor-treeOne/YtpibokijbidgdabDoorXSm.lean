/- What stays small, and what else holds of a tree, step for step. -/
import Derived.Test.YtpibokijbidgdabDoorUList
namespace Go.Proofs.YtpibokijbidgdabDoor
open Go.RowKit Go.Maps

/-- Directories, and how often files are held, are small. -/
def Sm (k : Nat) (T : Wd) : Prop := (∀ i C, T i = some (.dir C) → C.length ≤ k) ∧ ∀ i b x, T i = some (.file b x) → x ≤ k ∧ b.length ≤ 200
section
variable {T : Wd} {k : Nat}
theorem Sm.more (h : Sm k T) {k' : Nat} (hk : k ≤ k') : Sm k' T := ⟨fun i C e => Nat.le_trans (h.1 i C e) hk, fun i b x e => ⟨Nat.le_trans (h.2 i b x e).1 hk, (h.2 i b x e).2⟩⟩
theorem Sm.set (h : Sm k T) (n : Int) {nd : Nd} (hd : ∀ C, nd = .dir C → C.length ≤ k) (hf : ∀ b x, nd = .file b x → x ≤ k ∧ b.length ≤ 200) : Sm k (setT T n nd) := by
  refine ⟨fun i C e => ?_, fun i b x e => ?_⟩
  · by_cases e1 : i = n
    · subst e1; rw [setT_same] at e; exact hd C (Option.some.inj e)
    · rw [setT_other _ e1] at e; exact h.1 i C e
  · by_cases e1 : i = n
    · subst e1; rw [setT_same] at e; exact hf b x (Option.some.inj e)
    · rw [setT_other _ e1] at e; exact h.2 i b x e
theorem Sm.add (h : Sm k T) (d n : Int) (nm : Nm) : Sm (k + 1) (addT T d nm n) := by
  cases hd : T d with
  | none => rw [show addT T d nm n = T by unfold addT; rw [hd]]; exact h.more (by omega)
  | some nd => cases nd with
    | file b x => rw [show addT T d nm n = T by unfold addT; rw [hd]]; exact h.more (by omega)
    | dir C =>
      rw [addT_eq hd]
      exact (h.more (Nat.le_succ k)).set d (fun C' e => by cases e; have := h.1 d C hd; simp; omega) (fun b x e => by cases e)
theorem Sm.del (h : Sm k T) (d : Int) (nm : Nm) : Sm k (delT T d nm) := by
  cases hd : T d with
  | none => rw [show delT T d nm = T by unfold delT; rw [hd]]; exact h
  | some nd => cases nd with
    | file b x => rw [show delT T d nm = T by unfold delT; rw [hd]]; exact h
    | dir C =>
      rw [delT_eq hd]
      exact h.set d (fun C' e => by cases e; exact Nat.le_trans (List.length_filter_le _ _) (h.1 d C hd)) (fun b x e => by cases e)
theorem Sm.sweep (h : Sm k T) : Sm k (sweepT T) := ⟨fun i C e => h.1 i C (sweepT_sub e), fun i b x e => h.2 i b x (sweepT_sub e)⟩
theorem Sm.link (h : Sm k T) (p q : List UInt8) : Sm (k + 1) (linkN T p q) := by
  unfold linkN; split
  · exact h.more (by omega)
  · exact h.add _ _ _
theorem Sm.unlink (h : Sm k T) (p : List UInt8) : Sm (k + 1) (unlinkN T p) := by
  unfold unlinkN; split
  · exact h.more (by omega)
  · exact ((h.del _ _).sweep).more (by omega)
theorem Sm.rename (h : Sm k T) (p q : List UInt8) : Sm (k + 1) (renameN T p q) := by
  unfold renameN; split
  · exact h.more (by omega)
  · exact (h.del _ _).add _ _ _
theorem Sm.make (h : Sm k T) (p : List UInt8) (dir : Bool) (n : Int) : Sm (k + 1) (makeN T p dir n) := by
  unfold makeN
  refine (h.set n ?_ ?_).add _ _ _
  · intro C e; cases dir <;> (simp [newNd] at e); rw [e]; simp
  · intro b x e; cases dir <;> (simp [newNd] at e); rw [e.1, ← e.2]; simp
theorem Sm.hold (h : Sm k T) (n by' : Int) (hb : by' ≤ 1) : Sm (k + 1) (holdN T n by') := by
  unfold holdN
  split
  · rename_i b x e
    split
    · exact h.more (by omega)
    · refine ((h.more (Nat.le_succ k)).set n (fun C e9 => by cases e9) (fun b' x' e9 => ?_)).sweep
      cases e9
      have := h.2 n b x e; exact ⟨by omega, this.2⟩
  · exact h.more (by omega)
theorem Sm.write (h : Sm k T) (n a : Int) (x : List UInt8) : Sm (k + 1) (writeN T n a x) := by
  unfold writeN
  by_cases hh : writeE T n a x ≠ 0 ∨ x = []
  · rw [if_pos hh]; exact h.more (by omega)
  · rw [if_neg hh]
    cases e : T n with
    | none => exact h.more (by omega)
    | some nd => cases nd with
      | dir C => exact h.more (by omega)
      | file b y =>
        simp only
        refine (h.set n (fun C e9 => by cases e9) (fun b' x' e9 => ?_)).more (by omega)
        cases e9
        have h2 := h.2 n b y e
        refine ⟨h2.1, ?_⟩
        have hE : writeE T n a x = 0 := by
          by_cases e9 : writeE T n a x = 0
          · exact e9
          · exact absurd (.inl e9) hh
        unfold writeE at hE
        have hf : fileT T n = 0 := by unfold fileT; rw [e]
        rw [if_neg (fun e => e hf)] at hE
        by_cases ha : a < 0
        · rw [if_pos ha] at hE; omega
        · rw [if_neg ha] at hE
          by_cases hl : (200 : Int) < x.length ∨ 200 - (x.length : Int) < a
          · rw [if_pos hl] at hE; omega
          · rw [overT_len]; omega
theorem Sm.cut (h : Sm k T) (n size : Int) : Sm (k + 1) (cutN T n size) := by
  unfold cutN
  split
  · rename_i b y e
    split
    · exact h.more (by omega)
    · exact (h.set n (fun C e9 => by cases e9) (fun b' x' e9 => by cases e9; have h2 := h.2 n b y e; exact ⟨h2.1, by simp; omega⟩)).more (by omega)
  · exact h.more (by omega)

theorem IsNum.few {s : Nat} (h : IsNum T s) (hT : TrOk T) : s ≤ 64 := by
  obtain ⟨ks, hn, rfl, m⟩ := h
  have := sub_len (b := (List.range 64).map (fun i : Nat => (i : Int))) hn (fun x hx => by
    have hk := hT.key x ((m x).1 hx)
    exact List.mem_map.2 ⟨x.toNat, List.mem_range.2 (by omega), by omega⟩)
  simpa using this

/-- What else holds is kept. -/
theorem TrLv.hold (hT : TrLv T) (n : Int) {by' : Int} (hb : by' = 1 ∨ by' = -1) (hx : ∀ b x, T n = some (.file b x) → x + 1 ≤ 1000) : TrLv (holdN T n by') := by
  by_cases hz : fileT T n = 0
  · obtain ⟨b, x, hn⟩ := fileT_zero hz
    rcases hb with rfl | rfl
    · have hT' := hT.setF (b' := b) (x' := x + 1) hn (hT.small n b x hn).1 (hx b x hn) (.inl (by omega))
      have hN : holdN T n 1 = setT T n (.file b (x + 1)) := by
        unfold holdN; rw [hn]; simp only
        rw [if_neg (by omega), show ((x : Int) + 1).toNat = x + 1 by omega]
        exact sweep_none hT'.toTrOk hT'.lv
      rw [hN]; exact hT'
    · cases x with
      | zero =>
        have hN : holdN T n (-1) = T := by unfold holdN; rw [hn]; simp only; rw [if_pos (by omega)]
        rw [hN]; exact hT
      | succ x => exact (drop_turn hT hn).2.2
  · have hN : holdN T n by' = T := by
      unfold holdN
      cases hn : T n with
      | none => rfl
      | some nd => cases nd with
        | dir C => rfl
        | file b x => exact absurd (by unfold fileT; rw [hn]) hz
    rw [hN]; exact hT
theorem TrLv.same_file (hT : TrLv T) {n : Int} {b b' : List UInt8} {x : Nat} (hn : T n = some (.file b x)) (hb : b'.length ≤ 256) : TrLv (setT T n (.file b' x)) := by
  refine hT.setF hn hb (hT.small n b x hn).2 ?_
  rcases hT.lv n _ hn with e | e | e
  · exact absurd e (file_nz hT.toTrOk hn)
  · exact .inr e
  · exact .inl e
theorem TrLv.write (hT : TrLv T) (n a : Int) (x : List UInt8) : TrLv (writeN T n a x) := by
  unfold writeN
  split
  · exact hT
  · rename_i hh
    split
    · rename_i b y e
      refine hT.same_file e ?_
      have hE : writeE T n a x = 0 := by
        by_cases e9 : writeE T n a x = 0
        · exact e9
        · exact absurd (.inl e9) hh
      have hs := (hT.small n b y e).1
      unfold writeE at hE
      have hf : fileT T n = 0 := by unfold fileT; rw [e]
      rw [if_neg (fun e => e hf)] at hE
      by_cases ha : a < 0
      · rw [if_pos ha] at hE; omega
      · rw [if_neg ha] at hE
        by_cases hl : (200 : Int) < x.length ∨ 200 - (x.length : Int) < a
        · rw [if_pos hl] at hE; omega
        · rw [overT_len]; omega
    · exact hT
theorem TrLv.cut (hT : TrLv T) (n size : Int) : TrLv (cutN T n size) := by
  unfold cutN
  split
  · rename_i b y e
    split
    · exact hT
    · exact hT.same_file e (by have := (hT.small n b y e).1; simp; omega)
  · exact hT
theorem TrLv.make (hT : TrLv T) {s : Nat} {p : List UInt8} (hE : makeE T s p = 0) {n : Int} (hn : IsFree T n) (h1 : n < 64) (dir : Bool) : TrLv (makeN T p dir n) := by
  obtain ⟨_, ⟨C, hd, hl⟩, hnm, _⟩ := makeE_zero hT.toTrOk hE
  exact (make_turn hT dir hd hl hnm hn.none hn.pos h1).2.2.2
end
end Go.Proofs.YtpibokijbidgdabDoor

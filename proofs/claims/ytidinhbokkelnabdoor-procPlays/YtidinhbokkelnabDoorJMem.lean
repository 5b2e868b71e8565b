/- The document's own processes (package almshouseref) as they lie in memory. -/
import Derived.Test.YtidinhbokkelnabDoorJPl
import Derived.Test.YtidinhbokkelnabDoorRangesPut
import Derived.BigQuiet
namespace Go.Proofs.YtidinhbokkelnabDoor
open Go.RowKit Go.Maps

/-- Signals as a map. -/
def sv (f : Int → Bool) : Int → Option Value := fun s => if f s = true then some (.int .i64 1) else none
/-- A process as a value. -/
abbrev prv (p : Pr) (a b : Nat) : Value := .agg #[.int .i64 p.parent, .int .i64 p.state, .int .i64 p.code, .map (some a), .map (some b)]
abbrev pr0 : Value := .agg #[.int .i64 0, .int .i64 0, .int .i64 0, .map none, .map none]
theorem zero_pr (w : World) : (zeroValue 114).run Tryd.prog w = .ok pr0 w := by kernel_rfl
theorem prv_f (a b c : Int) (x y : Option Nat) (w : World) : (Instr.field 114 (.agg #[.int .i64 a, .int .i64 b, .int .i64 c, .map x, .map y]) 0).run Tryd.prog w = .ok (.int .i64 a) w ∧ (Instr.field 114 (.agg #[.int .i64 a, .int .i64 b, .int .i64 c, .map x, .map y]) 1).run Tryd.prog w = .ok (.int .i64 b) w ∧ (Instr.field 114 (.agg #[.int .i64 a, .int .i64 b, .int .i64 c, .map x, .map y]) 3).run Tryd.prog w = .ok (.map x) w ∧ (Instr.field 114 (.agg #[.int .i64 a, .int .i64 b, .int .i64 c, .map x, .map y]) 4).run Tryd.prog w = .ok (.map y) w := by
  refine ⟨?_, ?_, ?_, ?_⟩ <;> kernel_rfl
/-- Whose block it is: a process's signals that wait (0), that are ignored (1); the map's (2), the table's (3). -/
abbrev JT := Int × Nat
/-- Where all lies. -/
structure JG where
  g : Nat
  W : Int → Nat
  I : Int → Nat
  kap : Nat → Option JT
structure RJ (w : World) (t : Nat) (P : Ps) (G : JG) (c : Nat) : Prop where
  head : w.heap[t]? = some (.cells #[.map (some G.g)] 117)
  map : PMap w G.g c (fun n => (P n).map (fun p => prv p (G.W n) (G.I n)))
  wt : ∀ n p, P n = some p → ∃ s, PMap w (G.W n) s (sv p.wt)
  ig : ∀ n p, P n = some p → ∃ s, PMap w (G.I n) s (sv p.ig)
  kt : G.kap t = some (0, 3)
  kg : G.kap G.g = some (0, 2)
  kw : ∀ n, (P n).isSome = true → G.kap (G.W n) = some (n, 0)
  ki : ∀ n, (P n).isSome = true → G.kap (G.I n) = some (n, 1)
  lt : ∀ i, (G.kap i).isSome = true → i < w.heap.size
  ok : JOk P
def JG.own (G : JG) (i : Nat) : Prop := (G.kap i).isSome = true
section
variable {w w' : World} {t c : Nat} {P : Ps} {G : JG} {n m : Int} {p : Pr}
theorem RJ.keep (h : RJ w t P G c) (hk : ∀ i, G.own i → w'.heap[i]? = w.heap[i]?) (hs : w.heap.size ≤ w'.heap.size) : RJ w' t P G c := by
  have o : ∀ i x, G.kap i = some x → G.own i := fun i x e => by unfold JG.own; rw [e]; rfl
  refine ⟨(hk t (o _ _ h.kt)).trans h.head, h.map.keep (hk _ (o _ _ h.kg)), fun n p e => ?_, fun n p e => ?_, h.kt, h.kg, h.kw, h.ki, fun i hi => Nat.lt_of_lt_of_le (h.lt i hi) hs, h.ok⟩
  · obtain ⟨s, hs⟩ := h.wt n p e; exact ⟨s, hs.keep (hk _ (o _ _ (h.kw n (by rw [e]; rfl))))⟩
  · obtain ⟨s, hs⟩ := h.ig n p e; exact ⟨s, hs.keep (hk _ (o _ _ (h.ki n (by rw [e]; rfl))))⟩
theorem RJ.below (h : RJ w t P G c) (hb : Below w.heap.size w w') : RJ w' t P G c := h.keep (fun i hi => hb.block i (h.lt i hi)) hb.size
theorem RJ.drew (h : RJ w t P G c) (q : Nat) : RJ (w.drewN q) t P G c := h.keep (fun _ _ => rfl) (Nat.le_refl _)
theorem RJ.num (h : RJ w t P G c) : IsN P c := h.map.isN.congr (fun x => by cases P x <;> rfl)
theorem RJ.c0 (h : RJ w t P G c) : w.cell? ⟨t, 0, none⟩ = some (.map (some G.g)) := by rw [cell_of_row _ _ _ _ _ _ h.head]; rfl
theorem RJ.few (h : RJ w t P G c) : c ≤ 24 := by
  have := h.num.few (B := 24) (by omega) (fun x hx => by
    obtain ⟨p, hp⟩ := Option.isSome_iff_exists.1 hx
    have := h.ok.key x p hp; omega)
  omega
/-- Which block is which. -/
theorem RJ.gt (h : RJ w t P G c) : G.g ≠ t := fun e => by have := h.kt; rw [← e, h.kg] at this; cases this
theorem RJ.wg (h : RJ w t P G c) (hn : (P n).isSome = true) : G.W n ≠ G.g ∧ G.W n ≠ t := ⟨fun e => (by have := h.kg; rw [← e, h.kw n hn] at this; cases this), fun e => (by have := h.kt; rw [← e, h.kw n hn] at this; cases this)⟩
theorem RJ.ig' (h : RJ w t P G c) (hn : (P n).isSome = true) : G.I n ≠ G.g ∧ G.I n ≠ t := ⟨fun e => (by have := h.kg; rw [← e, h.ki n hn] at this; cases this), fun e => (by have := h.kt; rw [← e, h.ki n hn] at this; cases this)⟩
theorem RJ.wi (h : RJ w t P G c) (hn : (P n).isSome = true) (hm : (P m).isSome = true) : G.W n ≠ G.I m := fun e => by have := h.ki m hm; rw [← e, h.kw n hn] at this; cases this
theorem RJ.ww (h : RJ w t P G c) (hn : (P n).isSome = true) (hm : (P m).isSome = true) (hne : n ≠ m) : G.W n ≠ G.W m := fun e => by have := h.kw m hm; rw [← e, h.kw n hn] at this; cases this; exact hne rfl
theorem RJ.ii (h : RJ w t P G c) (hn : (P n).isSome = true) (hm : (P m).isSome = true) (hne : n ≠ m) : G.I n ≠ G.I m := fun e => by have := h.ki m hm; rw [← e, h.ki n hn] at this; cases this; exact hne rfl
/-- What a look-up gives. -/
theorem RJ.look (h : RJ w t P G c) (n : Int) (hn : (Lit.int .i64 n).wf = true) : (Instr.lookup 115 (.map (some G.g)) (.int .i64 n) false).run Tryd.prog w = .ok (match P n with | some p => prv p (G.W n) (G.I n) | none => pr0) w := by
  rw [h.map.look Tryd.underlying115 (zero_pr _) n hn]
  cases P n <;> rfl
/-- One's signals turn, in a block of their own. -/
theorem RJ.sig (h : RJ w t P G c) {f : Pr → Pr} (hp : P n = some p) (hq : prv (f p) (G.W n) (G.I n) = prv p (G.W n) (G.I n)) {b : Nat} (hb : b = G.W n ∨ b = G.I n) (hg : w.grownBy w' (some b)) (h1 : ∃ s, PMap w' (G.W n) s (sv (f p).wt)) (h2 : ∃ s, PMap w' (G.I n) s (sv (f p).ig)) (ok : JOk (onJ P n f)) : RJ w' t (onJ P n f) G c := by
  have hs : (P n).isSome = true := by rw [hp]; rfl
  have st : ∀ i, i < w.heap.size → i ≠ b → w'.heap[i]? = w.heap[i]? := fun i hi hne => hg.block i hi (fun e => hne (Option.some.inj e))
  have hbg : G.g ≠ b ∧ t ≠ b := by
    rcases hb with rfl | rfl
    · exact ⟨(h.wg hs).1.symm, (h.wg hs).2.symm⟩
    · exact ⟨(h.ig' hs).1.symm, (h.ig' hs).2.symm⟩
  have o : ∀ i x, G.kap i = some x → i < w.heap.size := fun i x e => h.lt i (by rw [e]; rfl)
  have hM : (fun i => (onJ P n f i).map (fun p => prv p (G.W i) (G.I i))) = fun i => (P i).map (fun p => prv p (G.W i) (G.I i)) := by
    funext i
    unfold onJ
    split
    · rename_i e; subst e; rw [hp]; exact congrArg some hq
    · rfl
  refine ⟨(st t (o _ _ h.kt) hbg.2).trans h.head, hM ▸ h.map.keep (st _ (o _ _ h.kg) hbg.1), fun i q e => ?_, fun i q e => ?_, h.kt, h.kg, fun i hi => h.kw i (by rw [onJ_isSome] at hi; exact hi), fun i hi => h.ki i (by rw [onJ_isSome] at hi; exact hi), fun i hi => Nat.lt_of_lt_of_le (h.lt i hi) hg.size, ok⟩
  · obtain ⟨q', hq', ⟨rfl, rfl⟩ | ⟨hne, rfl⟩⟩ := onJ_some e
    · rw [hp] at hq'; cases hq'; exact h1
    · have hi : (P i).isSome = true := by rw [hq']; rfl
      obtain ⟨s, m⟩ := h.wt i q hq'
      refine ⟨s, m.keep (st _ m.lt ?_)⟩
      rcases hb with rfl | rfl
      · exact h.ww hi hs hne
      · exact h.wi hi hs
  · obtain ⟨q', hq', ⟨rfl, rfl⟩ | ⟨hne, rfl⟩⟩ := onJ_some e
    · rw [hp] at hq'; cases hq'; exact h2
    · have hi : (P i).isSome = true := by rw [hq']; rfl
      obtain ⟨s, m⟩ := h.ig i q hq'
      refine ⟨s, m.keep (st _ m.lt ?_)⟩
      rcases hb with rfl | rfl
      · exact (h.wi hs hi).symm
      · exact h.ii hi hs hne
theorem sv_put (f : Int → Bool) (s : Int) : (fun i => if i = s then some (Value.int .i64 1) else sv f i) = sv (putS f s true) := by
  funext i; unfold sv putS; by_cases e : i = s <;> simp [e]
theorem sv_del (f : Int → Bool) (s : Int) : (fun i => if i = s then none else sv f i) = sv (putS f s false) := by
  funext i; unfold sv putS; by_cases e : i = s <;> simp [e]
theorem sv_size {g s : Nat} {f : Int → Bool} (m : PMap w g s (sv f)) (hf : ∀ i, f i = true → 1 ≤ i ∧ i ≤ 8) : s ≤ 8 := by
  have := m.isN.few (B := 8) (by omega) (fun x hx => by
    have hfx : f x = true := by
      unfold sv at hx
      by_cases e : f x = true
      · exact e
      · rw [if_neg e] at hx; cases hx
    have := hf x hfx; omega)
  omega
end
end Go.Proofs.YtidinhbokkelnabDoor

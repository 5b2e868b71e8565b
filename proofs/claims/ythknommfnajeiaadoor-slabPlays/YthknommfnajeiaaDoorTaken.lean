/- taken of the statements' own, by its Go text. -/
import Derived.Test.YthknommfnajeiaaDoorPooled
import Derived.Test.YthknommfnajeiaaDoorHeld
import Derived.Deep.RegionHeld3
import Derived.Deep.RegionLaw
namespace Go.Proofs.YthknommfnajeiaaDoor
open Go.RowKit Go.Shelf Go.Lib Go.Sort

theorem mpick_bounds (a n : Int) (h1 : 1 ≤ n) (h2 : n ≤ 1000000) : 0 ≤ wrap64 ((IntKind.u64.wrap a).tmod n) ∧ wrap64 ((IntKind.u64.wrap a).tmod n) < n := by
  have h0 : 0 ≤ IntKind.u64.wrap a := by rw [IntKind.wrap_u64]; omega
  have ht : (IntKind.u64.wrap a).tmod n = IntKind.u64.wrap a % n := Int.tmod_eq_emod_of_nonneg h0
  have l := Int.emod_nonneg (IntKind.u64.wrap a) (b := n) (by omega)
  have u := Int.emod_lt_of_pos (IntKind.u64.wrap a) (b := n) (by omega)
  rw [ht, show wrap64 (IntKind.u64.wrap a % n) = IntKind.u64.wrap a % n by unfold wrap64; omega]
  exact ⟨l, u⟩

set_option maxHeartbeats 400000 in
theorem mpick_any (w : World) (a : Int) (n : Nat) (h1 : 1 ≤ n) (h2 : n ≤ 1000000) :
    Calls Tryd.prog 28 #[.int .i64 a, .int .i64 n] w fun e w' => ∃ r : Nat, e = .returned (.int .i64 r) ∧ r < n ∧ w' = w := by
  have hb := mpick_bounds a n (by omega) (by omega)
  obtain ⟨r, hr⟩ : ∃ r : Nat, wrap64 ((IntKind.u64.wrap a).tmod n) = r := ⟨(wrap64 ((IntKind.u64.wrap a).tmod n)).toNat, by omega⟩
  rw [hr] at hb
  go_enter Tryd.func28, Tryd.ntmps28
  go_wp2
  go_ret
  exact ⟨r, by rw [← hr]; rfl, by omega, rfl⟩

/-- Moves lie in the argument's array. -/
def Moves (w : World) (ad : Option Addr) (len : Nat) (q : Nat → Bool × Int) : Prop :=
  len = 0 ∨ ∃ blk off, ad = some ⟨blk, off, none⟩ ∧ blk < w.heap.size ∧ ∀ i, i < len →
    w.cell? ⟨blk, off + i * 2, none⟩ = some (.bool (q i).1) ∧ w.cell? ⟨blk, off + i * 2 + 1, none⟩ = some (.int .i64 (q i).2)

theorem At.more' {w : World} {b n : Nat} {U : Nat → Bool} {T : Int → Option Nat} {m m' : Nat} {A : Nat → Prop} (h : At w b n U T m A) (hm : m ≤ m') : At w b n U T m' A := by
  obtain ⟨g, O, V, F, s, p, c, pm, hs, inv, hn, hA⟩ := h
  exact ⟨g, O, V, F, s, p, c, pm, Nat.le_trans hs hm, inv, hn, hA⟩

theorem least_in (F : Nat → List Int) (o : Nat) : ∀ d, (∃ j, o ≤ j ∧ j ≤ o + d ∧ F j ≠ []) → ∃ j, o ≤ j ∧ j ≤ o + d ∧ F j ≠ [] ∧ ∀ i, o ≤ i → i < j → F i = []
  | 0, ⟨j, h1, h2, h3⟩ => ⟨j, h1, h2, h3, fun i a1 a2 => by omega⟩
  | d + 1, ⟨j, h1, h2, h3⟩ => by
    by_cases h : ∃ j, o ≤ j ∧ j ≤ o + d ∧ F j ≠ []
    · obtain ⟨i, a1, a2, a3, a4⟩ := least_in F o d h
      exact ⟨i, a1, by omega, a3, a4⟩
    · refine ⟨j, h1, h2, h3, fun i a1 a2 => ?_⟩
      by_cases e : F i = []
      · exact e
      · exact absurd ⟨i, a1, by omega, e⟩ h

/-- Where there is a block that serves, there is a best one. -/
theorem At.best {w : World} {b n : Nat} {U : Nat → Bool} {T : Int → Option Nat} {m : Nat} {A : Nat → Prop} (h : At w b n U T m A) (o : Nat) (hno : ¬ ∀ j r, mxb U j r → j < o) : ∃ k q, Best U o (q * 2 ^ k) k ∧ T ((q * 2 ^ k : Nat) : Int) = none := by
  obtain ⟨g, O, V, F, s, p, c, pm, hs, inv, hn, hA⟩ := h
  have hex : ∃ j, o ≤ j ∧ j ≤ o + 6 ∧ F j ≠ [] ∧ j ≤ 6 := by
    refine Classical.byContradiction fun hc => hno fun j r hx => ?_
    by_cases ho : o ≤ j
    · exfalso
      have hj := hx.1
      have hm := ((c j (by omega)).2 _).2 ⟨r, rfl, hx⟩
      exact hc ⟨j, ho, by omega, fun e => (by rw [e] at hm; cases hm), hj⟩
    · omega
  obtain ⟨j, h1, h2, h3, h6⟩ := hex
  obtain ⟨k, k1, k2, k3, k4⟩ := least_in F o 6 ⟨j, h1, h2, h3⟩
  have hk6 : k ≤ 6 := by
    by_cases e : k ≤ j
    · omega
    · exact absurd (k4 j h1 (by omega)) h3
  obtain ⟨z, l, hl⟩ := List.exists_cons_of_ne_nil k3
  obtain ⟨q, _, hx, hB⟩ := best_row c k1 hk6 k4 hl
  refine ⟨k, q, hB, ?_⟩
  cases hT : T ((q * 2 ^ k : Nat) : Int) with
  | none => rfl
  | some k' =>
    obtain ⟨_, r, hr, hf⟩ := inv.tk _ _ hT
    have e : q * 2 ^ k = r * 2 ^ k' := Int.ofNat.inj hr
    have a1 := hx.2.1 _ (first_in k q)
    rw [e, (hf _ (first_in k' r)).2] at a1; cases a1

theorem BL.at' {w : World} {N : Nat} {v : Value} {L : List (Int × Int)} (h : BL w N v L) (hne : L ≠ []) : ∃ g cap, v = .slice (some ⟨g, 0, none⟩) L.length cap ∧ N ≤ g ∧ g < w.heap.size ∧ L.length ≤ cap ∧ (∀ j (hj : j < L.length), w.cell? ⟨g, j * 2, none⟩ = some (.int .i64 L[j].1) ∧ w.cell? ⟨g, j * 2 + 1, none⟩ = some (.int .i64 L[j].2)) ∧ ∀ j u, (bc L)[j]? = some u → w.cell? ⟨g, j, none⟩ = some u := by
  have hpos : 0 < L.length := List.length_pos_iff.2 hne
  rcases h.2 with ⟨_, h0⟩ | ⟨g, cap, cur, rfl, hb, hg, hcap, hml, hsz, htake⟩
  · omega
  · have hc : ∀ j u, (bc L)[j]? = some u → w.cell? ⟨g, j, none⟩ = some u := by
      intro j u hu
      have hj : j < L.length * 2 := by have := (List.getElem?_eq_some_iff.1 hu).1; rwa [bc_len] at this
      rw [cell_of_row w g _ _ _ _ hg, ← hu, ← htake, List.getElem?_take, if_pos hj]; simp
    refine ⟨g, cap, rfl, hb, lt_of_heap hg, hcap, fun j hj => ?_, hc⟩
    have hr := bc_get L j L[j] (by simp [hj])
    exact ⟨hc _ _ hr.1, hc _ _ hr.2⟩

theorem BL.form' {w : World} {N : Nat} {v : Value} {L : List (Int × Int)} (h : BL w N v L) : ∃ a cap, v = .slice a L.length cap ∧ L.length ≤ cap := by
  rcases h.2 with ⟨rfl, h0⟩ | ⟨g, cap, cur, rfl, _, _, hcap, _⟩
  · exact ⟨none, 0, by rw [h0], by omega⟩
  · exact ⟨_, _, rfl, hcap⟩

theorem bc_take (L : List (Int × Int)) (k : Nat) : bc (L.take k) = (bc L).take (k * 2) := by
  induction L generalizing k with
  | nil => simp [bc]
  | cons a l ih =>
    cases k with
    | zero => simp [bc]
    | succ k =>
      have := ih k
      rw [show (k + 1) * 2 = k * 2 + 1 + 1 by omega]
      simp only [bc, List.take_succ_cons, List.flatMap_cons, be, List.cons_append, List.nil_append] at *
      rw [this]
theorem bc_drop (L : List (Int × Int)) (k : Nat) : bc (L.drop k) = (bc L).drop (k * 2) := by
  induction L generalizing k with
  | nil => simp [bc]
  | cons a l ih =>
    cases k with
    | zero => simp
    | succ k =>
      have := ih k
      rw [show (k + 1) * 2 = k * 2 + 1 + 1 by omega]
      simp only [bc, List.drop_succ_cons, List.flatMap_cons, be, List.cons_append, List.nil_append] at *
      rw [this]
theorem bc_one (L : List (Int × Int)) : ∀ u ∈ bc L, u.oneCell' = true := by
  intro u hu
  obtain ⟨x, _, hx⟩ := List.mem_flatMap.1 hu
  exact be_one x u hx

/-- How the list and the pool stand beside each other while moves are made. -/
structure TS (w0 : World) (A0 : Nat → Prop) (b n : Nat) (w : World) (v : Value) (L : List (Int × Int)) (U : Nat → Bool) (T : Int → Option Nat) (m : Nat) (A : Nat → Prop) : Prop where
  pool : At w b n U T m A
  fr : Fr A0 w0 w
  sub : ∀ i, i < w0.heap.size → A i → A0 i
  list : BL w w0.heap.size v L
  off : ∀ i, v.ownBlock = some i → ¬ A i
  held : Held L T

section
variable {w0 w w' : World} {A0 A : Nat → Prop} {b n : Nat} {v v' : Value} {L L' : List (Int × Int)} {U U1 : Nat → Bool} {T T1 : Int → Option Nat} {m m1 : Nat}

theorem TS.turn (s : TS w0 A0 b n w v L U T m A) (t : Turns w b n A w' U1 T1 m1) : ∃ A', At w' b n U1 T1 m1 A' ∧ Fr A0 w0 w' ∧ (∀ i, i < w0.heap.size → A' i → A0 i) ∧ BL w' w0.heap.size v L ∧ (∀ i, v.ownBlock = some i → ¬ A' i) := by
  obtain ⟨A', a, fr, sub⟩ := t
  have hlt : ∀ i, v.ownBlock = some i → i < w.heap.size := fun i hi => (World.ownsRow.lt s.list i hi).2
  refine ⟨A', a, s.fr.trans fr (fun i hi h => s.sub i hi h), fun i hi h => s.sub i hi (sub i (Nat.lt_of_lt_of_le hi s.fr.size) h), ?_, fun i hi h => s.off i hi (sub i (hlt i hi) h)⟩
  refine ⟨s.list.1, ?_⟩
  rcases s.list.2 with h0 | ⟨g, cap, cur, rfl, hb, hg, rest⟩
  · exact .inl h0
  · exact .inr ⟨g, cap, cur, rfl, hb, (fr.block g (lt_of_heap hg) (s.off g rfl)).trans hg, rest⟩

theorem TS.more (s : TS w0 A0 b n w v L U T m A) (hm : m ≤ m1) : TS w0 A0 b n w v L U T m1 A := ⟨s.pool.more' hm, s.fr, s.sub, s.list, s.off, s.held⟩

theorem TS.same (s : TS w0 A0 b n w v L U T m A) (h : w'.heap = w.heap) (h1 : w'.os = w.os) (h2 : w'.tape = w.tape) (h3 : w'.output = w.output) : TS w0 A0 b n w' v L U T m A := by
  refine ⟨s.pool.keep' (fun i _ => by rw [h]), ⟨h1.trans s.fr.os, h2.trans s.fr.tape, h3.trans s.fr.output, by rw [h]; exact s.fr.size, fun i hi hn => by rw [h]; exact s.fr.block i hi hn⟩, s.sub, ?_, s.off, s.held⟩
  refine ⟨s.list.1, ?_⟩
  rcases s.list.2 with h0 | ⟨g, cap, cur, e, hb, hg, rest⟩
  · exact .inl h0
  · exact .inr ⟨g, cap, cur, e, hb, by rw [h]; exact hg, rest⟩

/-- The list anew, in memory of its own. -/
theorem TS.relist {w2 : World} (a : At w b n U T m A) (fr : Fr A0 w0 w) (sub : ∀ i, i < w0.heap.size → A i → A0 i) (hoff : ∀ i, v.ownBlock = some i → ¬ A i ∧ w0.heap.size ≤ i) (g : w.grownBy w2 v.ownBlock) (hl : BL w2 w0.heap.size v' L') (hv : ∀ i, v'.ownBlock = some i → v.ownBlock = some i ∨ w.heap.size ≤ i) (hd : Held L' T) : TS w0 A0 b n w2 v' L' U T m A := by
  refine ⟨a.keep' (fun i hi => g.block i (a.lt' hi) (fun e => (hoff i e.symm).1 hi)), fr.trans (B := fun i => v.ownBlock = some i) ⟨g.os, g.tape, g.output, g.size, fun i hi hn => g.block i hi (fun e => hn e.symm)⟩ (fun i hi h => by have := (hoff i h).2; omega), sub, hl, fun i hi h => ?_, hd⟩
  rcases hv i hi with e | e
  · exact (hoff i e).1 h
  · have := a.lt' h; omega
end
end Go.Proofs.YthknommfnajeiaaDoor

/- A pool: where it lies; the best of its blocks that serve. -/
import Derived.Test.YtcfhanoekniaaaaGreatDoorLefts
import Derived.Test.YtcfhanoekniaaaaGreatDoorTakeOut
import Derived.Lib.SlKeysI
import Derived.Test.YtcfhanoekniaaaaGreatDoorJAbs
import Derived.Test.YtcfhanoekniaaaaGreatDoorNew
import Derived.BigQuiet
import Derived.Deep.RegionWith
namespace Go.Proofs.YtcfhanoekniaaaaGreatDoor
open Go.RowKit Go.Shelf Go.Lib Go.Sort

theorem At.lt' {w : World} {b n : Nat} {U : Nat → Bool} {T : Int → Option Nat} {m : Nat} {A : Nat → Prop} (h : At w b n U T m A) {i : Nat} (hi : A i) : i < w.heap.size := by
  obtain ⟨g, O, V, F, s, p, c, pm, hs, inv, hn, hA⟩ := h
  rcases (hA i).1 hi with h | rfl
  · exact p.own_lt h
  · exact pm.lt
theorem At.keep' {w w' : World} {b n : Nat} {U : Nat → Bool} {T : Int → Option Nat} {m : Nat} {A : Nat → Prop} (h : At w b n U T m A) (hk : ∀ i, A i → w'.heap[i]? = w.heap[i]?) : At w' b n U T m A := by
  obtain ⟨g, O, V, F, s, p, c, pm, hs, inv, hn, hA⟩ := h
  exact ⟨g, O, V, F, s, p.keep (fun i hi => hk i ((hA i).2 (.inl hi))), c, pm.keep (hk g ((hA g).2 (.inr rfl))), hs, inv, hn, hA⟩
theorem At.more' {w : World} {b n : Nat} {U : Nat → Bool} {T : Int → Option Nat} {m m' : Nat} {A : Nat → Prop} (h : At w b n U T m A) (hm : m ≤ m') : At w b n U T m' A := by
  obtain ⟨g, O, V, F, s, p, c, pm, hs, inv, hn, hA⟩ := h
  exact ⟨g, O, V, F, s, p, c, pm, Nat.le_trans hs hm, inv, hn, hA⟩
theorem least_in (F : Nat → List Int) (o : Nat) : ∀ d, (∃ j, o ≤ j ∧ j ≤ o + d ∧ F j ≠ []) → ∃ j, o ≤ j ∧ j ≤ o + d ∧ F j ≠ [] ∧ ∀ i, o ≤ i → i < j → F i = []
  | 0, ⟨j, h1, h2, h3⟩ => ⟨j, h1, h2, h3, fun i a1 a2 => by omega⟩
  | d + 1, ⟨j, h1, h2, h3⟩ => by
    by_cases h : ∃ j, o ≤ j ∧ j ≤ o + d ∧ F j ≠ []
    · obtain ⟨i, a1, a2, a3, a4⟩ := least_in F o d h
      exact ⟨i, a1, by omega, a3, a4⟩
    · refine ⟨j, h1, h2, h3, fun i a1 a2 => ?_⟩
      by_cases e : F i = []
      · exact e
      · exact absurd ⟨i, a1, by omega, e⟩ h
/-- Where there is a block that serves, there is a best one. -/
theorem At.best {w : World} {b n : Nat} {U : Nat → Bool} {T : Int → Option Nat} {m : Nat} {A : Nat → Prop} (h : At w b n U T m A) (o : Nat) (hno : ¬ ∀ j r, mxb U j r → j < o) : ∃ k q, Best U o (q * 2 ^ k) k ∧ T ((q * 2 ^ k : Nat) : Int) = none := by
  obtain ⟨g, O, V, F, s, p, c, pm, hs, inv, hn, hA⟩ := h
  have hex : ∃ j, o ≤ j ∧ j ≤ o + 6 ∧ F j ≠ [] ∧ j ≤ 6 := by
    refine Classical.byContradiction fun hc => hno fun j r hx => ?_
    by_cases ho : o ≤ j
    · exfalso
      have hj := hx.1
      have hm := ((c j (by omega)).2 _).2 ⟨r, rfl, hx⟩
      exact hc ⟨j, ho, by omega, fun e => (by rw [e] at hm; cases hm), hj⟩
    · omega
  obtain ⟨j, h1, h2, h3, h6⟩ := hex
  obtain ⟨k, k1, k2, k3, k4⟩ := least_in F o 6 ⟨j, h1, h2, h3⟩
  have hk6 : k ≤ 6 := by
    by_cases e : k ≤ j
    · omega
    · exact absurd (k4 j h1 (by omega)) h3
  obtain ⟨z, l, hl⟩ := List.exists_cons_of_ne_nil k3
  obtain ⟨q, _, hx, hB⟩ := best_row c k1 hk6 k4 hl
  refine ⟨k, q, hB, ?_⟩
  cases hT : T ((q * 2 ^ k : Nat) : Int) with
  | none => rfl
  | some k' =>
    obtain ⟨_, r, hr, hf⟩ := inv.tk _ _ hT
    have e : q * 2 ^ k = r * 2 ^ k' := Int.ofNat.inj hr
    have a1 := hx.2.1 _ (first_in k q)
    rw [e, (hf _ (first_in k' r)).2] at a1; cases a1
end Go.Proofs.YtcfhanoekniaaaaGreatDoor

namespace Go.Proofs.YtcfhanoekniaaaaGreatDoor
open Go.RowKit Go.Shelf Go.Lib Go.Sort Go.Maps

theorem sorted_keys {ss : List Int} (h : ss.Nodup) : (ss.mergeSort (fun x y => decide (x ≤ y))).Pairwise (· < ·) := by
  have tr : ∀ a b c : Int, decide (a ≤ b) = true → decide (b ≤ c) = true → decide (a ≤ c) = true := fun a b c h1 h2 => by simp only [decide_eq_true_eq] at *; omega
  have tl : ∀ a b : Int, (decide (a ≤ b) || decide (b ≤ a)) = true := fun a b => by simp only [Bool.or_eq_true, decide_eq_true_eq]; omega
  have h1 := List.pairwise_mergeSort tr tl ss
  have h2 : (ss.mergeSort (fun x y => decide (x ≤ y))).Nodup := (List.mergeSort_perm ss _).nodup_iff.2 h
  exact h1.imp₂ (fun {a b} h1 h2 => by simp only [decide_eq_true_eq] at h1; omega) h2

theorem PMap.size_num {w : World} {g s n : Nat} {T : Int → Option Nat} (m : PMap w g s (tm T)) (hw : Within T n) : s = num T n := by
  obtain ⟨D, _, _, hnd, hl, hk⟩ := m.data
  have hp := sorted_keys hnd
  have hK : Ks T ((Go.intKeys D).mergeSort (fun x y => decide (x ≤ y))) := ⟨hp, fun x => by
    rw [(List.mergeSort_perm _ _).mem_iff, hk x]; unfold tm; cases T x <;> simp⟩
  rw [← num_keys hK hw, (List.mergeSort_perm _ _).length_eq, hl]

theorem BInv.within {n : Nat} {U : Nat → Bool} {T : Int → Option Nat} (h : BInv n U T) : Within T n := fun x hx => by
  cases e : T x with
  | none => rw [e] at hx; cases hx
  | some k =>
    obtain ⟨_, q, hq, hf⟩ := h.tk x k e
    have := (hf _ (first_in k q)).1
    omega

section
variable {w : World} {b n : Nat} {U : Nat → Bool} {T : Int → Option Nat} {m : Nat} {A : Nat → Prop}
theorem At.inv (h : At w b n U T m A) : BInv n U T := by obtain ⟨g, O, V, F, s, p, c, pm, hs, inv, hn, hA⟩ := h; exact inv
theorem At.n256 (h : At w b n U T m A) : n ≤ 256 := by obtain ⟨g, O, V, F, s, p, c, pm, hs, inv, hn, hA⟩ := h; exact hn
theorem At.shrink (h : At w b n U T m A) : At w b n U T 256 A := by
  obtain ⟨g, O, V, F, s, p, c, pm, hs, inv, hn, hA⟩ := h
  refine ⟨g, O, V, F, s, p, c, pm, ?_, inv, hn, hA⟩
  rw [pm.size_num inv.within]
  exact Nat.le_trans (num_le _ _) hn

theorem give0 (h : At w b n U T m A) (f : Nat) (ht : T (f : Int) = some 0) :
    Calls Tryz.prog 326 #[pp b, .int .i64 (f : Int), .int .i64 0] w fun e w' => e = .returned .nilIface ∧ ∃ U', Turns w b n A w' U' (fun z => if z = (f : Int) then none else T z) m := by
  have h0 := give_ok h f 0 (by simpa using ht)
  simp only [Nat.pow_zero, Nat.mul_one] at h0
  refine h0.mono ?_
  rintro e w' ⟨he, t⟩
  exact ⟨he, _, t⟩
theorem alloc0 (h : At w b n U T m A) (hm : m < 10000) :
    Calls Tryz.prog 284 #[pp b, .int .i64 0] w fun e w' => (cnt U 0 n = 0 ∧ e = .returned (.tuple #[.int .i64 0, enr 12]) ∧ w' = w) ∨
      ∃ f : Nat, f < n ∧ T (f : Int) = none ∧ e = .returned (.tuple #[.int .i64 (f : Int), .nilIface]) ∧ ∃ U', Turns w b n A w' U' (fun z => if z = (f : Int) then some 0 else T z) (m + 1) := by
  by_cases hno : ∀ j r, mxb U j r → j < 0
  · refine (alloc_none h 0 (by omega) hno).mono ?_
    rintro e w' ⟨he, hw⟩
    exact .inl ⟨full_cnt0 h.inv.bound hno, he, hw⟩
  · obtain ⟨k, q, hB, hT⟩ := h.best 0 hno
    refine (alloc_some h hm 0 (by omega) k q hB).mono ?_
    rintro e w' ⟨he, t⟩
    have hl : q * 2 ^ k < n := by
      obtain ⟨⟨q', hq', hx⟩, _, _⟩ := hB
      rw [hq']; exact h.inv.bound _ (hx.2.1 _ (first_in _ _))
    exact .inr ⟨q * 2 ^ k, hl, hT, he, _, t⟩
end
end Go.Proofs.YtcfhanoekniaaaaGreatDoor

namespace Go.Proofs.YtcfhanoekniaaaaGreatDoor
open Go.RowKit Go.Shelf Go.Lib Go.Sort Go.Maps

/-- Where a store lies: itself, its memory, the words, the pool, the counts; how many frames. -/
structure St where
  b : Nat
  bm : Nat
  sm : Nat
  bp : Nat
  g : Nat
  n : Nat

abbrev vp (b : Nat) : Value := .pointer (some ⟨b, 0, none⟩)

structure Vs (E : St) (w : World) (D : Nat → Nat → Int) (R : Int → Option Nat) (A : Nat → Prop) : Prop where
  head : w.heap[E.b]? = some (.cells #[mp E.bm, pp E.bp, .map (some E.g)] 201)
  mem : Mem w E.bm E.sm E.n D
  pool : ∃ U T, At w E.bp E.n U T 256 A ∧ Sole R T
  map : PMap w E.g (num R E.n) (tm R)
  small : ∀ x k, R x = some k → 1 ≤ k ∧ k ≤ 1000
  offb : ¬ A E.b
  offm : ¬ A E.bm
  offs : ¬ A E.sm
  offg : ¬ A E.g
  nbs : E.b ≠ E.sm
  nbg : E.b ≠ E.g
  nmg : E.bm ≠ E.g
  nsg : E.sm ≠ E.g
  n1 : 1 ≤ E.n

/-- What is a store's own, and is written. -/
def vown (E : St) (A : Nat → Prop) (i : Nat) : Prop := A i ∨ i = E.sm ∨ i = E.g

def VTurn (E : St) (w : World) (A : Nat → Prop) (w' : World) (D : Nat → Nat → Int) (R : Int → Option Nat) : Prop :=
  ∃ A', Vs E w' D R A' ∧ Fr (vown E A) w w' ∧ ∀ i, i < w.heap.size → A' i → A i

section
variable {E : St} {w w' : World} {D : Nat → Nat → Int} {R : Int → Option Nat} {A : Nat → Prop}

theorem Vs.n256 (h : Vs E w D R A) : E.n ≤ 256 := by obtain ⟨U, T, a, _⟩ := h.pool; exact a.n256
theorem Vs.within (h : Vs E w D R A) : Within R E.n := by
  obtain ⟨U, T, a, s⟩ := h.pool
  intro x hx
  refine a.inv.within x ?_
  rw [s x]; cases e : R x with
  | none => rw [e] at hx; cases hx
  | some k => rfl
theorem Vs.lt (h : Vs E w D R A) {i : Nat} (hi : A i) : i < w.heap.size := by obtain ⟨U, T, a, _⟩ := h.pool; exact a.lt' hi
theorem Vs.blt (h : Vs E w D R A) : E.b < w.heap.size := lt_of_heap h.head
theorem Vs.slt (h : Vs E w D R A) : E.sm < w.heap.size := h.mem.lt_s h.n1
theorem Vs.mlt (h : Vs E w D R A) : E.bm < w.heap.size := h.mem.lt_b
theorem Vs.glt (h : Vs E w D R A) : E.g < w.heap.size := h.map.lt
theorem Vs.olt (h : Vs E w D R A) {i : Nat} (hi : vown E A i) : i < w.heap.size := by
  rcases hi with hi | rfl | rfl
  · exact h.lt hi
  · exact h.slt
  · exact h.glt
theorem Vs.bno (h : Vs E w D R A) : ¬ vown E A E.b := by
  rintro (hi | e | e)
  · exact h.offb hi
  · exact h.nbs e
  · exact h.nbg e
theorem Vs.mno (h : Vs E w D R A) : ¬ vown E A E.bm := by
  rintro (hi | e | e)
  · exact h.offm hi
  · exact h.mem.ne e
  · exact h.nmg e
theorem Vs.keep (h : Vs E w D R A) (hk : ∀ i, vown E A i → w'.heap[i]? = w.heap[i]?) (hb : w'.heap[E.b]? = w.heap[E.b]?) (hm : w'.heap[E.bm]? = w.heap[E.bm]?) : Vs E w' D R A := by
  obtain ⟨U, T, a, s⟩ := h.pool
  exact ⟨hb.trans h.head, h.mem.keep hm (hk _ (.inr (.inl rfl))), ⟨U, T, a.keep' (fun i hi => hk i (.inl hi)), s⟩, h.map.keep (hk _ (.inr (.inr rfl))), h.small, h.offb, h.offm, h.offs, h.offg, h.nbs, h.nbg, h.nmg, h.nsg, h.n1⟩
theorem Vs.below (h : Vs E w D R A) (hb : Below w.heap.size w w') : Vs E w' D R A :=
  h.keep (fun i hi => hb.block i (h.olt hi)) (hb.block _ h.blt) (hb.block _ h.mlt)
theorem Vs.c0 (h : Vs E w D R A) : w.cell? ⟨E.b, 0, none⟩ = some (mp E.bm) := by rw [cell_of_row w E.b 0 _ _ _ h.head]; rfl
theorem Vs.c1 (h : Vs E w D R A) : w.cell? ⟨E.b, 1, none⟩ = some (pp E.bp) := by rw [cell_of_row w E.b 1 _ _ _ h.head]; rfl
theorem Vs.c2 (h : Vs E w D R A) : w.cell? ⟨E.b, 2, none⟩ = some (.map (some E.g)) := by rw [cell_of_row w E.b 2 _ _ _ h.head]; rfl
theorem Vs.val_lt (h : Vs E w D R A) (x : Int) : val R x ≤ 1000 := by
  unfold val; cases e : R x with
  | none => simp
  | some k => exact (h.small x k e).2
theorem Vs.val_pos (h : Vs E w D R A) {x : Int} (hx : (R x).isSome = true) : 1 ≤ val R x := by
  unfold val; cases e : R x with
  | none => rw [e] at hx; cases hx
  | some k => exact (h.small x k e).1
theorem Vs.neg (h : Vs E w D R A) {x : Int} (hx : x < 0) : R x = none := by
  cases e : R x with
  | none => rfl
  | some k => have := h.within x (by rw [e]; rfl); omega
theorem tm_val (R : Int → Option Nat) (x : Int) : (tm R x).getD (.int .i64 0) = .int .i64 (val R x : Int) := by
  unfold tm val; cases R x <;> rfl
theorem tm_isSome (R : Int → Option Nat) (x : Int) : (tm R x).isSome = (R x).isSome := by unfold tm; cases R x <;> rfl
theorem tm_putC (R : Int → Option Nat) (x : Int) (k : Nat) : (fun i => if i = x then some (.int .i64 (k : Int)) else tm R i) = tm (putC R x k) := tm_put R x k

theorem VTurn.refl (h : Vs E w D R A) : VTurn E w A w D R := ⟨A, h, Fr.refl _ _, fun _ _ h => h⟩
/-- The counts' map turned, nothing else; the pool knows of no other frames. -/
theorem Vs.count (h : Vs E w D R A) {R' : Int → Option Nat} (hg : w.grownBy w' (some E.g)) (pm : PMap w' E.g (num R' E.n) (tm R')) (hsm : ∀ x k, R' x = some k → 1 ≤ k ∧ k ≤ 1000) (hs : ∀ x, (R' x).isSome = (R x).isSome) : VTurn E w A w' D R' := by
  obtain ⟨U, T, a, s⟩ := h.pool
  have hk : ∀ i, i < w.heap.size → i ≠ E.g → w'.heap[i]? = w.heap[i]? := fun i hi hn => hg.block i hi (fun e => hn (Option.some.inj e))
  refine ⟨A, ⟨(hk _ h.blt h.nbg).trans h.head, h.mem.keep (hk _ h.mlt h.nmg) (hk _ h.slt h.nsg), ⟨U, T, a.keep' (fun i hi => hk i (a.lt' hi) (fun e => h.offg (e ▸ hi))), fun x => ?_⟩, pm, hsm, h.offb, h.offm, h.offs, h.offg, h.nbs, h.nbg, h.nmg, h.nsg, h.n1⟩, (Fr.grown hg).mono (fun i _ e => .inr (.inr e)), fun _ _ h => h⟩
  rw [s x]
  have := hs x
  cases e : R' x <;> cases e' : R x <;> rw [e, e'] at this <;> first | rfl | cases this

theorem Vs.left (h : Vs E w D R A) : Calls Tryz.prog 119 #[vp E.b] w fun e w' => e = .returned (.int .i64 ((E.n - num R E.n : Nat) : Int)) ∧ w' = w := by
  obtain ⟨U, T, a, s⟩ := h.pool
  have hl := left_num a.inv s
  have e0 : E.n - num R E.n = cnt U 0 E.n := by omega
  have c1 := h.c1
  have hL := left_ok a
  rw [e0]
  go_enter Tryz.func119, Tryz.ntmps119
  go_wp2_with (go_at_call 219; refine hL.mono ?_; rintro e w1 ⟨rfl, h1⟩; subst w1)
  go_ret
  exact ⟨rfl, rfl⟩

theorem Vs.isOwn (h : Vs E w D R A) (f : Int) (hf : (Lit.int .i64 f).wf = true) : Calls Tryz.prog 221 #[vp E.b, .int .i64 f] w fun e w' => e = .returned (.bool (decide (val R f = 1))) ∧ w' = w := by
  have c2 := h.c2
  have hv := h.val_lt f
  have hm := h.map
  have ht := tm_val R f
  go_enter Tryz.func221, Tryz.ntmps221
  go_wp2_with (at_lookup; refine wpList_klook rfl _ _ 83 rfl 3 Tryz.underlying83 _ (zero_int _) E.g _ _ rfl hm f rfl hf ?_; rw [ht])
  go_ret
  refine ⟨?_, rfl⟩
  by_cases e : val R f = 1 <;> simp [e]
  omega

theorem Vs.share_none (_h : Vs E w D R A) : Calls Tryz.prog 237 #[vp E.b, .int .i64 (-1)] w fun e w' => e = .returned (.tuple #[]) ∧ w' = w := by
  go_enter Tryz.func237, Tryz.ntmps237
  go_wp2_with fail
  go_end0
  exact ⟨rfl, rfl⟩

set_option maxHeartbeats 1000000 in
theorem Vs.share_ok (h : Vs E w D R A) (f : Int) (hf : (R f).isSome = true) (hv : val R f < 1000) : Calls Tryz.prog 237 #[vp E.b, .int .i64 f] w fun e w' => e = .returned (.tuple #[]) ∧ VTurn E w A w' D (putC R f (val R f + 1)) := by
  have c2 := h.c2
  have hm := h.map
  have ht := tm_val R f
  have hw := h.within f hf
  have hn := h.n256
  have hwf : (Lit.int .i64 f).wf = true := wf_small hw.1 (by omega)
  have hne : ¬ f = -1 := by omega
  have hsz : num R E.n < maxLen := by have := num_le R E.n; unfold maxLen; omega
  have hfin : ∀ w', PMap w' E.g (if (tm R f).isSome then num R E.n else num R E.n + 1) (fun i => if i = f then some (.int .i64 ((val R f : Int) + 1)) else tm R i) → w.grownBy w' (some E.g) → VTurn E w A w' D (putC R f (val R f + 1)) := by
    intro w' pm hg
    rw [tm_isSome, if_pos hf, show ((val R f : Int) + 1) = ((val R f + 1 : Nat) : Int) by omega, tm_putC] at pm
    refine h.count hg (by rw [num_put_old hf]; exact pm) (fun x k hk => ?_) (fun x => ?_)
    · unfold putC at hk; split at hk
      · cases hk; omega
      · exact h.small x k hk
    · unfold putC; split
      · rename_i e; rw [e, hf]; rfl
      · rfl
  clear h
  generalize val R f = v at *
  go_enter Tryz.func237, Tryz.ntmps237
  go_wp2_with (first
    | (at_lookup; refine wpList_klook rfl _ _ 83 rfl 3 Tryz.underlying83 _ (zero_int _) E.g _ _ rfl hm f rfl hwf ?_; rw [ht])
    | (at_mapUpdate; refine wpList_kput rfl _ _ _ 83 rfl 3 Tryz.underlying83 E.g _ _ rfl hm hsz f rfl hwf (.int .i64 ((v : Int) + 1)) rfl ?_; intro w1 pm1 g1))
  go_end0
  exact ⟨rfl, hfin _ pm1 g1⟩

/-- What is left of the counts when a page lets a frame go. -/
def dropR (R : Int → Option Nat) (f : Int) : Int → Option Nat := fun x => if x = f then (if val R f ≤ 1 then none else some (val R f - 1)) else R x
theorem dropR_val {R : Int → Option Nat} {f x : Int} : val (dropR R f) x = if x = f then val R f - 1 else val R x := by
  unfold val dropR; by_cases e : x = f
  · simp only [if_pos e]; split
    · rename_i h; unfold val at h; rw [Option.getD_none]; omega
    · rfl
  · simp only [if_neg e]
theorem dropR_neg {R : Int → Option Nat} (h : R (-1) = none) : dropR R (-1) = R := by
  funext x; unfold dropR; split
  · rename_i e; rw [e, h]; simp [val, h]
  · rfl
theorem num_dropR_last {R : Int → Option Nat} {n : Nat} {f : Int} (h0 : 0 ≤ f) (h1 : f < (n : Int)) (hf : (R f).isSome = true) (hv : val R f ≤ 1) : num (dropR R f) n + 1 = num R n := by
  have ef : ((f.toNat : Nat) : Int) = f := by omega
  refine (sumTo_set (f := f.toNat) (d := 1) ?_ (fun i hi => ?_) n 0 (by omega) (by omega)).symm
  · simp [dropR, ef, hf, hv]
  · have : ¬ (i : Int) = f := by omega
    simp [dropR, this]
theorem dropR_more {R : Int → Option Nat} {f : Int} (hv : 1 < val R f) : dropR R f = putC R f (val R f - 1) := by
  funext x; unfold dropR putC; split
  · rw [if_neg (by omega)]
  · rfl
theorem dropR_last {R : Int → Option Nat} {f : Int} (hv : val R f ≤ 1) : dropR R f = fun x => if x = f then none else R x := by
  funext x; unfold dropR; rw [if_pos hv]

set_option maxHeartbeats 1000000 in
theorem drop_nil (b : Nat) (w : World) : Calls Tryz.prog 283 #[vp b, .int .i64 (-1)] w fun e w' => e = .returned (.tuple #[]) ∧ w' = w := by
  go_enter Tryz.func283, Tryz.ntmps283
  go_wp2_with fail
  (try simp only [Exit.inBlock, Exit.then]); refine bodyPost_ret (results_none rfl _ _ _) rfl ?_
  exact ⟨rfl, rfl⟩

theorem Vs.drop_none (h : Vs E w D R A) : Calls Tryz.prog 283 #[vp E.b, .int .i64 (-1)] w fun e w' => e = .returned (.tuple #[]) ∧ VTurn E w A w' D (dropR R (-1)) := by
  refine (drop_nil E.b w).mono ?_
  rintro e w' ⟨he, hw⟩
  subst hw
  exact ⟨he, by rw [dropR_neg (h.neg (by omega : (-1 : Int) < 0))]; exact VTurn.refl h⟩

set_option maxHeartbeats 2000000 in
theorem drop_raw {b g s : Nat} (c2 : w.cell? ⟨b, 2, none⟩ = some (.map (some g))) (hm : PMap w g s (tm R)) (hs : s < maxLen) (hbg : b ≠ g) (f : Int) (h0 : 0 ≤ f) (h1 : f < 1000) (hv1 : 1 < val R f) (hvl : val R f ≤ 1000) : Calls Tryz.prog 283 #[vp b, .int .i64 f] w fun e w' => e = .returned (.tuple #[]) ∧ PMap w' g s (tm (dropR R f)) ∧ w.grownBy w' (some g) := by
  have hf : (tm R f).isSome = true := by
    rw [tm_isSome]; cases e : R f with
    | none => rw [val, e] at hv1; simp at hv1
    | some k => rfl
  have ht := tm_val R f
  have hwf : (Lit.int .i64 f).wf = true := wf_small h0 (by omega)
  have hne : ¬ f = -1 := by omega
  have hfin : ∀ w', PMap w' g (if (tm R f).isSome then s else s + 1) (fun i => if i = f then some (.int .i64 ((val R f : Int) - 1)) else tm R i) → PMap w' g s (tm (dropR R f)) := by
    intro w' pm
    rw [if_pos hf, show ((val R f : Int) - 1) = ((val R f - 1 : Nat) : Int) by omega, tm_putC] at pm
    rw [dropR_more hv1]; exact pm
  generalize val R f = v at *
  have hbs : some b ≠ some g := fun e => hbg (Option.some.inj e)
  go_enter Tryz.func283, Tryz.ntmps283
  go_wp2_with (first
    | (at_lookup; refine wpList_klook rfl _ _ 83 rfl 3 Tryz.underlying83 _ (zero_int _) g _ _ rfl hm f rfl hwf ?_; rw [ht])
    | (at_lookup; refine wpList_klook rfl _ _ 83 rfl 3 Tryz.underlying83 _ (zero_int _) g _ _ rfl pm1 f rfl hwf ?_; simp only [if_true, Option.getD_some])
    | (at_mapUpdate; refine wpList_kput rfl _ _ _ 83 rfl 3 Tryz.underlying83 g _ _ rfl hm hs f rfl hwf (.int .i64 ((v : Int) - 1)) rfl ?_; intro w1 pm1 g1; have c2' := g1.cell c2 hbs))
  go_end0
  exact ⟨rfl, hfin _ pm1, g1⟩

theorem some_of_one {R : Int → Option Nat} {f : Int} (hv : 1 ≤ val R f) : (R f).isSome = true := by
  cases e : R f with
  | none => rw [val, e] at hv; simp at hv
  | some k => rfl
theorem num_dropR_more {R : Int → Option Nat} {n : Nat} {f : Int} (hv : 1 < val R f) : num (dropR R f) n = num R n := by
  rw [dropR_more hv]; exact num_put_old (some_of_one (by omega))
theorem dropR_some {R : Int → Option Nat} {f : Int} (hv : 1 < val R f) (x : Int) : (dropR R f x).isSome = (R x).isSome := by
  rw [dropR_more hv]; unfold putC; split
  · rename_i e; rw [e, some_of_one (by omega)]; rfl
  · rfl

theorem Vs.drop_more (h : Vs E w D R A) (f : Int) (hv1 : 1 < val R f) : Calls Tryz.prog 283 #[vp E.b, .int .i64 f] w fun e w' => e = .returned (.tuple #[]) ∧ VTurn E w A w' D (dropR R f) := by
  have hw := h.within f (some_of_one (by omega))
  have hn := h.n256
  refine (drop_raw h.c2 h.map (by have := num_le R E.n; unfold maxLen; omega) h.nbg f hw.1 (by omega) hv1 (h.val_lt f)).mono ?_
  rintro e w' ⟨he, pm, hg⟩
  refine ⟨he, h.count hg (by rw [num_dropR_more hv1]; exact pm) (fun x k hk => ?_) (dropR_some hv1)⟩
  rw [dropR_more hv1] at hk
  unfold putC at hk; split at hk
  · cases hk; have := h.val_lt f; omega
  · exact h.small x k hk

set_option maxHeartbeats 2000000 in
theorem Vs.drop_last (h : Vs E w D R A) (f : Int) (hv1 : val R f = 1) : Calls Tryz.prog 283 #[vp E.b, .int .i64 f] w fun e w' => e = .returned (.tuple #[]) ∧ VTurn E w A w' D (dropR R f) := by
  have hf : (R f).isSome = true := by
    cases e : R f with
    | none => rw [val, e] at hv1; simp at hv1
    | some k => rfl
  have c1 := h.c1
  have c2 := h.c2
  have hbg := h.nbg
  have hm := h.map
  have ht := tm_val R f
  have hw := h.within f hf
  have hn := h.n256
  have hwf : (Lit.int .i64 f).wf = true := wf_small hw.1 (by omega)
  have hne : ¬ f = -1 := by omega
  have hsz : num R E.n < maxLen := by have := num_le R E.n; unfold maxLen; omega
  have hnum := num_dropR_last hw.1 hw.2 hf (by omega)
  have hfin : ∀ w2 s, PMap w2 E.g s (fun i => if i = f then none else if i = f then some (.int .i64 0) else tm R i) → s + 1 = num R E.n → Fr (· = E.g) w w2 → Calls Tryz.prog 326 #[pp E.bp, .int .i64 f, .int .i64 0] w2 fun e w' => e = .returned .nilIface ∧ VTurn E w A w' D (dropR R f) := by
    intro w2 s pm hs fr
    obtain ⟨U, T, a, so⟩ := h.pool
    have hT : T f = some 0 := by
      rw [so f]; cases e : R f with
      | none => rw [e] at hf; cases hf
      | some k => rfl
    have hk : ∀ i, i < w.heap.size → i ≠ E.g → w2.heap[i]? = w.heap[i]? := fun i hi hn => fr.block i hi hn
    have a2 := a.keep' (fun i hi => hk i (a.lt' hi) (fun e => h.offg (e ▸ hi)))
    obtain ⟨q, rfl⟩ : ∃ q : Nat, f = (q : Int) := ⟨f.toNat, by omega⟩
    refine (give0 a2 q hT).mono ?_
    rintro e w' ⟨he, U', A', a', fr', sub'⟩
    have hl : ∀ i, i < w.heap.size → i < w2.heap.size := fun i hi => Nat.lt_of_lt_of_le hi fr.size
    have hk' : ∀ i, i < w.heap.size → i ≠ E.g → ¬ A i → w'.heap[i]? = w.heap[i]? := fun i hi hn hA => (fr'.block i (hl i hi) hA).trans (hk i hi hn)
    have hpm : (fun i => if i = (q : Int) then none else if i = (q : Int) then some (.int .i64 0) else tm R i) = tm (dropR R q) := by
      rw [dropR_last (by omega)]; funext i; unfold tm; by_cases e : i = (q : Int) <;> simp [e]
    rw [hpm] at pm
    refine ⟨he, A', ⟨(hk' _ h.blt h.nbg h.offb).trans h.head, h.mem.keep (hk' _ h.mlt h.nmg h.offm) (hk' _ h.slt h.nsg h.offs), ⟨U', _, a', fun x => ?_⟩, ?_, fun x k hx => ?_, fun ha => h.offb (sub' _ (hl _ h.blt) ha), fun ha => h.offm (sub' _ (hl _ h.mlt) ha), fun ha => h.offs (sub' _ (hl _ h.slt) ha), fun ha => h.offg (sub' _ (hl _ h.glt) ha), h.nbs, h.nbg, h.nmg, h.nsg, h.n1⟩, ?_, fun i hi ha => sub' i (hl i hi) ha⟩
    · rw [dropR_last (by omega)]; simp only; split
      · rfl
      · exact so x
    · rw [show num (dropR R q) E.n = s by omega]
      exact pm.keep (fr'.block _ pm.lt h.offg)
    · rw [dropR_last (by omega)] at hx; simp only at hx; split at hx
      · cases hx
      · exact h.small x k hx
    · exact (fr.mono (fun i _ e => .inr (.inr e))).trans fr' (fun i _ ha => .inl ha)
  have hsm : (tm R f).isSome = true := by rw [tm_isSome]; exact hf
  have hnp : 1 ≤ num R E.n := by omega
  clear h
  replace ht : (tm R f).getD (.int .i64 0) = .int .i64 1 := by rw [ht, hv1]; rfl
  generalize num R E.n = nn at *
  have hbs : some E.b ≠ some E.g := fun e => hbg (Option.some.inj e)
  go_enter Tryz.func283, Tryz.ntmps283
  go_wp2_with (first
    | (at_lookup; refine wpList_klook rfl _ _ 83 rfl 3 Tryz.underlying83 _ (zero_int _) E.g _ _ rfl hm f rfl hwf ?_; rw [ht])
    | (at_lookup; refine wpList_klook rfl _ _ 83 rfl 3 Tryz.underlying83 _ (zero_int _) E.g _ _ rfl pm1 f rfl hwf ?_; simp only [if_true, Option.getD_some])
    | (at_mapUpdate; refine wpList_kput rfl _ _ _ 83 rfl 3 Tryz.underlying83 E.g _ _ rfl hm hsz f rfl hwf (.int .i64 0) rfl ?_; intro w1 pm1 g1; have c2' := g1.cell c2 hbs)
    | (at_delete; refine wpList_kdel rfl _ _ 83 rfl 3 Tryz.underlying83 E.g _ _ rfl pm1 f rfl hwf ?_; intro w2 pm2 g2; have c1' := g2.cell (g1.cell c1 hbs) hbs)
    | (go_at_call 326; refine (hfin _ _ pm2 (by simp [hsm]; omega) ((Fr.grown g1).trans (Fr.grown g2) (fun _ _ h => h))).mono ?_; rintro e w3 ⟨rfl, t3⟩))
  go_end0
  exact ⟨rfl, t3⟩

/-- drop, of no frame or of one that there is. -/
theorem Vs.drop_ok (h : Vs E w D R A) (f : Int) (hf : f = -1 ∨ (R f).isSome = true) : Calls Tryz.prog 283 #[vp E.b, .int .i64 f] w fun e w' => e = .returned (.tuple #[]) ∧ VTurn E w A w' D (dropR R f) := by
  rcases hf with rfl | hf
  · exact h.drop_none
  · by_cases hv : val R f = 1
    · exact h.drop_last f hv
    · exact h.drop_more f (by have := h.val_pos hf; omega)

/-- What a new frame gets: the words of the one before, or none. -/
def firstW (D : Nat → Nat → Int) (f : Int) : Nat → Int := fun j => if f = -1 then 0 else D f.toNat j

set_option maxHeartbeats 2000000 in
theorem Vs.own_ok (h : Vs E w D R A) (f : Int) (hf : f = -1 ∨ 1 < val R f) :
    Calls Tryz.prog 222 #[vp E.b, .int .i64 f] w fun e w' => (num R E.n = E.n ∧ e = .returned (.tuple #[.int .i64 (-1), enr 12]) ∧ w' = w) ∨
      ∃ k : Nat, k < E.n ∧ R (k : Int) = none ∧ e = .returned (.tuple #[.int .i64 (k : Int), .nilIface]) ∧ VTurn E w A w' (row D k (firstW D f)) (putC (dropR R f) (k : Int) 1) := by
  obtain ⟨U, T, a, so⟩ := h.pool
  have hn := h.n256
  have hlft := left_num a.inv so
  have c0 := h.c0
  have c1 := h.c1
  have c2 := h.c2
  -- all that comes behind the pool's answer
  have hfin : ∀ (k : Nat) (w1 w2 w3 w4 : World) (A' : Nat → Prop) (U' : Nat → Bool) (s : Nat), k < E.n → R (k : Int) = none → At w1 E.bp E.n U' (fun z => if z = (k : Int) then some 0 else T z) 257 A' → Fr A w w1 → (∀ i, i < w.heap.size → A' i → A i) →
      Mem w2 E.bm E.sm E.n (row D k (firstW D f)) → w1.grownBy w2 (some E.sm) → w2.grownBy w3 (some E.g) → w3.grownBy w4 (some E.g) → PMap w4 E.g s (tm (putC (dropR R f) (k : Int) 1)) → VTurn E w A w4 (row D k (firstW D f)) (putC (dropR R f) (k : Int) 1) := by
    intro k w1 w2 w3 w4 A' U' s hk hRk a1 f1 sub m2 g2 g3 g4 pm
    have l1 : ∀ i, i < w.heap.size → i < w1.heap.size := fun i hi => Nat.lt_of_lt_of_le hi f1.size
    have l2 : ∀ i, i < w1.heap.size → i < w2.heap.size := fun i hi => Nat.lt_of_lt_of_le hi g2.size
    have l3 : ∀ i, i < w2.heap.size → i < w3.heap.size := fun i hi => Nat.lt_of_lt_of_le hi g3.size
    have k4 : ∀ i, i < w2.heap.size → i ≠ E.g → w4.heap[i]? = w2.heap[i]? := fun i hi hg => (g4.block i (l3 i hi) (fun e => hg (Option.some.inj e))).trans (g3.block i hi (fun e => hg (Option.some.inj e)))
    have k2 : ∀ i, i < w1.heap.size → i ≠ E.g → i ≠ E.sm → w4.heap[i]? = w1.heap[i]? := fun i hi hg hs => (k4 i (l2 i hi) hg).trans (g2.block i hi (fun e => hs (Option.some.inj e)))
    have hA' : ∀ i, A' i → i ≠ E.g ∧ i ≠ E.sm := fun i hi => ⟨fun e => h.offg (sub _ h.glt (e ▸ hi)), fun e => h.offs (sub _ h.slt (e ▸ hi))⟩
    have hsome : ∀ x, (dropR R f x).isSome = (R x).isSome := by
      rcases hf with rfl | hv
      · intro x; rw [dropR_neg (h.neg (by omega))]
      · exact dropR_some hv
    have hdk : dropR R f (k : Int) = none := by
      have := hsome k; rw [hRk] at this; cases e : dropR R f (k : Int) with
      | none => rfl
      | some v => rw [e] at this; cases this
    have hwi : Within (putC (dropR R f) (k : Int) 1) E.n := by
      refine Within.put (fun x hx => h.within x (by rw [← hsome]; exact hx)) (by omega) (by omega)
    refine ⟨A', ⟨?_, m2.keep (k4 _ (l2 _ (l1 _ h.mlt)) h.nmg) (k4 _ (l2 _ (l1 _ h.slt)) h.nsg), ⟨U', _, a1.shrink.keep' (fun i hi => k2 i (a1.lt' hi) (hA' i hi).1 (hA' i hi).2), fun x => ?_⟩, ?_, fun x v hx => ?_, fun ha => h.offb (sub _ h.blt ha), fun ha => h.offm (sub _ h.mlt ha), fun ha => h.offs (sub _ h.slt ha), fun ha => h.offg (sub _ h.glt ha), h.nbs, h.nbg, h.nmg, h.nsg, h.n1⟩, ?_, sub⟩
    · exact ((k2 _ (l1 _ h.blt) h.nbg h.nbs).trans (f1.block _ h.blt h.offb)).trans h.head
    · simp only [putC]; split
      · rfl
      · rw [so x]; have := hsome x
        cases e : dropR R f x <;> cases e' : R x <;> rw [e, e'] at this <;> first | rfl | cases this
    · rw [← pm.size_num hwi]; exact pm
    · unfold putC at hx; split at hx
      · cases hx; omega
      · rcases hf with rfl | hv
        · rw [dropR_neg (h.neg (by omega))] at hx; exact h.small x v hx
        · rw [dropR_more hv] at hx; unfold putC at hx; split at hx
          · cases hx; have := h.val_lt f; omega
          · exact h.small x v hx
    · exact (((f1.mono (fun i _ h => .inl h)).trans (Fr.grown g2) (fun i _ e => .inr (.inl e))).trans (Fr.grown g3) (fun i _ e => .inr (.inr e))).trans (Fr.grown g4) (fun i _ e => .inr (.inr e))
  have hbs : some E.b ≠ some E.g := fun e => h.nbg (Option.some.inj e)
  have hbm : some E.b ≠ some E.sm := fun e => h.nbs (Option.some.inj e)
  go_enter Tryz.func222, Tryz.ntmps222
  go_wp2_with fail
  refine (alloc0 a (by omega)).mono ?_
  rintro e w1 (⟨hcnt, rfl, hw⟩ | ⟨k, hk, hT, rfl, U', A', a1, f1, sub⟩)
  · subst w1
    clear hfin
    go_wp2_with fail
    go_ret2
    exact .inl ⟨by omega, rfl, rfl⟩
  · have hRk : R (k : Int) = none := by
      have := so k; rw [hT] at this; cases e : R (k : Int) with
      | none => rfl
      | some v => rw [e] at this; cases this
    have hb1 := f1.block _ h.blt h.offb
    have d0 : w1.cell? ⟨E.b, 0, none⟩ = some (mp E.bm) := by rw [World.cell?_of_block (w := w) (a := ⟨E.b, 0, none⟩) hb1]; exact c0
    have d2 : w1.cell? ⟨E.b, 2, none⟩ = some (.map (some E.g)) := by rw [World.cell?_of_block (w := w) (a := ⟨E.b, 2, none⟩) hb1]; exact c2
    have m1 := h.mem.keep (f1.block _ h.mlt h.offm) (f1.block _ h.slt h.offs)
    have pm1 := h.map.keep (f1.block _ h.glt h.offg)
    have hnsg := h.nsg
    have hgs : some E.g ≠ some E.sm := fun e => hnsg (Option.some.inj e).symm
    have hglt : E.g < w1.heap.size := pm1.lt
    have hnum := num_le R E.n
    have hmax : num R E.n < maxLen := by unfold maxLen; omega
    have hwfk : (Lit.int .i64 (k : Int)).wf = true := wf_small (by omega) (by omega)
    have hwin := h.within
    have hvl := h.val_lt f
    have hneg := h.neg (x := -1) (by omega)
    have hnbg := h.nbg
    have hput : ∀ (w3 w4 : World) (s : Nat), PMap w4 E.g s (fun i => if i = (k : Int) then some (.int .i64 1) else tm (dropR R f) i) → PMap w4 E.g s (tm (putC (dropR R f) (k : Int) 1)) := fun w3 w4 s pm => by
      rw [← tm_putC]; exact pm
    clear h a so hT hlft c0 c1 c2 hb1
    rcases hf with rfl | hv
    · have hZ := zero_ok m1 (k : Int) (by omega) (by omega)
      have e0 : firstW D (-1) = fun _ => 0 := by funext j; simp [firstW]
      have edr : dropR R (-1) = R := dropR_neg hneg
      go_wp2_with fail
      refine hZ.mono ?_
      rintro e w2 ⟨rfl, m2, _, g2⟩
      have d0' := g2.cell d0 hbm
      have d2' := g2.cell d2 hbm
      have pm2 := pm1.keep (g2.block _ hglt hgs)
      go_wp2_with (first
        | (go_at_call 283; refine (drop_nil _ _).mono ?_; rintro e w3 ⟨rfl, h3⟩; subst w3)
        | (at_mapUpdate; refine wpList_kput rfl _ _ _ 83 rfl 3 Tryz.underlying83 E.g _ _ rfl pm2 hmax (k : Int) rfl hwfk _ rfl ?_; intro w4 pm4 g4))
      go_ret2
      refine .inr ⟨k, hk, hRk, rfl, hfin k w1 w2 w2 w4 A' U' _ hk hRk a1 f1 sub (by rw [e0]; simpa using m2) g2 (World.grownBy.refl w2 _) g4 (hput w2 w4 _ (by rw [edr]; exact pm4))⟩
    · have hwf := hwin f (some_of_one (by omega))
      have hC := copy_ok m1 (k : Int) f (by omega) (by omega) hwf.1 hwf.2
      have hnf : ¬ f = -1 := by omega
      have e0 : firstW D f = D f.toNat := by funext j; simp [firstW, hnf]
      go_wp2_with fail
      refine hC.mono ?_
      rintro e w2 ⟨rfl, m2, _, g2⟩
      have d2' := g2.cell d2 hbm
      have pm2 := pm1.keep (g2.block _ hglt hgs)
      have hdr := drop_raw d2' pm2 hmax hnbg f hwf.1 (by omega) hv hvl
      go_wp2_with fail
      refine hdr.mono ?_
      rintro e w3 ⟨rfl, pm3, g3⟩
      have d3 := g3.cell d2' hbs
      go_wp2_with (at_mapUpdate; refine wpList_kput rfl _ _ _ 83 rfl 3 Tryz.underlying83 E.g _ _ rfl pm3 hmax (k : Int) rfl hwfk _ rfl ?_; intro w4 pm4 g4)
      go_ret2
      exact .inr ⟨k, hk, hRk, rfl, hfin k w1 w2 w3 w4 A' U' _ hk hRk a1 f1 sub (by rw [e0]; simpa using m2) g2 g3 g4 (hput w3 w4 _ pm4)⟩
end
end Go.Proofs.YtcfhanoekniaaaaGreatDoor

namespace Go.Proofs.YtcfhanoekniaaaaGreatDoor
open Go.RowKit Go.Shelf Go.Lib Go.Sort Go.Maps

def pgv (P : PM) : Int → Option Value := fun a => (P a).map fun p => .agg #[.int .i64 p.1, .int .i64 p.2]
def pg (P : PM) (a : Int) : Int × Int := (P a).getD (0, 0)
theorem pgv_get (P : PM) (a : Int) : (pgv P a).getD (.agg #[.int .i64 0, .int .i64 0]) = .agg #[.int .i64 (pg P a).1, .int .i64 (pg P a).2] := by
  unfold pgv pg; cases P a <;> rfl
theorem pgv_isSome (P : PM) (a : Int) : (pgv P a).isSome = (P a).isSome := by unfold pgv; cases P a <;> rfl
theorem pgv_put (P : PM) (a x y : Int) : (fun i => if i = a then some (.agg #[.int .i64 x, .int .i64 y]) else pgv P i) = pgv (putP P a (x, y)) := by
  funext i; unfold pgv putP; split <;> rfl
theorem pgv_del (P : PM) (a : Int) : (fun i => if i = a then none else pgv P i) = pgv (delP P a) := by
  funext i; by_cases e : i = a <;> simp [pgv, delP, e]
theorem pg_frm {P : PM} {a : Int} (h : (P a).isSome = true) : (pg P a).2 = frm P a := by
  unfold pg frm; cases e : P a with
  | none => rw [e] at h; cases h
  | some p => rfl
/-- A space at block c over a store at b, its pages at gc. -/
structure Sp (w : World) (c b gc : Nat) (P : PM) : Prop where
  head : w.heap[c]? = some (.cells #[vp b, .map (some gc)] 321)
  map : PMap w gc (lenP P) (pgv P)

theorem zero_page (w : World) : (zeroValue 315).run Tryz.prog w = .ok (.agg #[.int .i64 0, .int .i64 0]) w := by kernel_rfl

theorem page_second (x y : Int) (W : World) : (Instr.field 315 (.agg #[.int .i64 x, .int .i64 y]) 1).run Tryz.prog W = .ok (.int .i64 y) W := by kernel_rfl

theorem sumTo_last (g : Nat → Nat) : ∀ (m a : Nat), sumTo g a (m + 1) = sumTo g a m + g (a + m)
  | 0, a => by simp [sumTo]
  | m + 1, a => by rw [sumTo, sumTo_last g m (a + 1), sumTo]; rw [show a + 1 + m = a + (m + 1) by omega]; omega

/-- How many of n pages from a on are there. -/
def hasP (P : PM) (a : Int) (n : Nat) : Nat := sumTo (fun i => if (P (a + i)).isSome then 1 else 0) 0 n
theorem hasP_next (P : PM) (a : Int) (n : Nat) : hasP P a (n + 1) = hasP P a n + if (P (a + n)).isSome then 1 else 0 := by
  unfold hasP; rw [sumTo_last, Nat.zero_add]
theorem hasP_le (P : PM) (a : Int) (n : Nat) : hasP P a n ≤ n := by
  have := sumTo_const_le (g := fun i : Nat => if (P (a + i)).isSome then 1 else 0) (d := 1) n 0 (fun i => by split <;> omega)
  unfold hasP; omega
theorem hasP_none {P : PM} {a : Int} : ∀ {n : Nat}, hasP P a n = 0 → ∀ i : Nat, i < n → P (a + i) = none
  | n + 1, h, i, hi => by
    rw [hasP_next] at h
    by_cases e : i = n
    · subst e; cases e' : P (a + i) with
      | none => rfl
      | some p => rw [e'] at h; simp at h
    · exact hasP_none (n := n) (by omega) i (by omega)
theorem hasP_all {P : PM} {a : Int} : ∀ {n : Nat}, ¬ hasP P a n < n → ∀ i : Nat, i < n → (P (a + i)).isSome = true
  | n + 1, h, i, hi => by
    rw [hasP_next] at h
    have := hasP_le P a n
    by_cases e : i = n
    · subst e; cases e' : (P (a + i)).isSome with
      | true => rfl
      | false => rw [e'] at h; simp at h; omega
    · refine hasP_all (n := n) ?_ i (by omega)
      split at h <;> omega

section
variable {w w' : World} {c b gc : Nat} {P : PM}
theorem Sp.lt (h : Sp w c b gc P) : c < w.heap.size := lt_of_heap h.head
theorem Sp.glt (h : Sp w c b gc P) : gc < w.heap.size := h.map.lt
theorem Sp.ne (h : Sp w c b gc P) : c ≠ gc := by
  rintro rfl
  obtain ⟨es, cl, hm⟩ := h.map.isMap
  rw [h.head] at hm; cases hm
theorem Sp.keep (h : Sp w c b gc P) (h1 : w'.heap[c]? = w.heap[c]?) (h2 : w'.heap[gc]? = w.heap[gc]?) : Sp w' c b gc P := ⟨h1.trans h.head, h.map.keep h2⟩
theorem Sp.below (h : Sp w c b gc P) (hb : Below w.heap.size w w') : Sp w' c b gc P := h.keep (hb.block c h.lt) (hb.block gc h.glt)
theorem Sp.c0 (h : Sp w c b gc P) : w.cell? ⟨c, 0, none⟩ = some (vp b) := by rw [cell_of_row w c 0 _ _ _ h.head]; rfl
theorem Sp.c1 (h : Sp w c b gc P) : w.cell? ⟨c, 1, none⟩ = some (.map (some gc)) := by rw [cell_of_row w c 1 _ _ _ h.head]; rfl

set_option maxHeartbeats 1000000 in
theorem find_ok (h : Sp w c b gc P) (a : Int) (ha : (Lit.int .i64 a).wf = true) : Calls Tryz.prog 215 #[vp c, .int .i64 a] w fun e w' => e = .returned (.tuple #[.agg #[.int .i64 (pg P a).1, .int .i64 (pg P a).2], .bool (P a).isSome]) ∧ Below w.heap.size w w' := by
  have c1 := h.c1
  have hm := h.map
  have hg := pgv_get P a
  have hs := pgv_isSome P a
  have hlt := h.lt
  have hglt := h.glt
  clear h
  generalize (pg P a).1 = x at *
  generalize (pg P a).2 = y at *
  generalize (P a).isSome = t at *
  have e1 : ∀ o, (w.alloc o).cell? ⟨c, 1, none⟩ = some (.map (some gc)) := fun o => by rw [World.cell?_of_block (w := w) (a := ⟨c, 1, none⟩) (Below.heap_alloc _ _ _ hlt)]; exact c1
  go_enter Tryz.func215, Tryz.ntmps215
  go_wp2_with (at_lookup; refine wpList_kask rfl _ _ 319 rfl 315 Tryz.underlying319 _ (zero_page _) gc _ _ rfl (hm.keep (Below.heap_alloc _ _ _ hglt)) a rfl ha ?_; rw [hg, hs])
  refine bodyPost_ret (v := .tuple #[.agg #[.int .i64 x, .int .i64 y], .bool t]) (by simp [results, Tryz.results215, go_sem]) rfl ⟨rfl, ?_⟩
  repeat first | exact Below.refl _ _ | refine Below.alloc ?_ (by first | omega | (simp <;> omega)) _ | refine Below.setCell ?_ (by first | omega | (simp <;> omega)) _

def areP (a n : Int) : Bool := decide (1 ≤ n) && decide (0 ≤ a) && decide (a + n ≤ 64)
def isU (p : Int) : Bool := decide (1 ≤ p) && decide (p ≤ 3)
theorem areP_true {a n : Int} : areP a n = true ↔ 1 ≤ n ∧ 0 ≤ a ∧ a + n ≤ 64 := by unfold areP; simp [and_assoc]
theorem isU_true {p : Int} : isU p = true ↔ 1 ≤ p ∧ p ≤ 3 := by unfold isU; simp

set_option maxHeartbeats 1000000 in
theorem arePages_ok (w : World) (a n : Int) (hn : n ≤ 9223372036854775807) : Calls Tryz.prog 230 #[.int .i64 a, .int .i64 n] w fun e w' => e = .returned (.bool (areP a n)) ∧ w' = w := by
  by_cases h1 : 1 ≤ n <;> by_cases h2 : 0 ≤ a <;> by_cases h3 : a + n ≤ 64
  all_goals
    have hA : areP a n = (decide (1 ≤ n) && decide (0 ≤ a) && decide (a + n ≤ 64)) := rfl
    simp only [h1, h2, h3, decide_true, decide_false, Bool.and_true, Bool.and_false] at hA
    rw [hA]
    clear hA
    try have h4 : a ≤ 64 - n := by omega
    try have h4 : ¬ a ≤ 64 - n := by omega
    go_enter Tryz.func230, Tryz.ntmps230
    go_wp2_with fail
    go_ret
    exact ⟨rfl, rfl⟩

set_option maxHeartbeats 1000000 in
theorem isUse_okV (w : World) (p : Int) : Calls Tryz.prog 231 #[.int .i64 p] w fun e w' => e = .returned (.bool (isU p)) ∧ w' = w := by
  by_cases h1 : 1 ≤ p <;> by_cases h2 : p ≤ 3
  all_goals
    have hA : isU p = (decide (1 ≤ p) && decide (p ≤ 3)) := rfl
    simp only [h1, h2, decide_true, decide_false, Bool.and_true, Bool.and_false] at hA
    rw [hA]
    clear hA
    go_enter Tryz.func231, Tryz.ntmps231
    go_wp2_with fail
    go_ret
    exact ⟨rfl, rfl⟩

set_option maxHeartbeats 2000000 in
theorem Sp.count (h : Sp w c b gc P) (a : Int) (n : Nat) (h0 : 0 ≤ a) (h1 : a + n ≤ 64) : Calls Tryz.prog 232 #[vp c, .int .i64 a, .int .i64 (n : Int)] w fun e w' => e = .returned (.int .i64 (hasP P a n : Nat)) ∧ Below w.heap.size w w' := by
  go_enter Tryz.func232, Tryz.ntmps232
  go_wp2_with fail
  go_loopg [7, 12] n (fun mm s7 s12 wr => ∃ i : Nat, i + mm = n ∧ s12 = .int .i64 (i : Int) ∧ s7 = .int .i64 (hasP P a i : Nat) ∧ Below w.heap.size w wr)
  case atStart => exact ⟨0, by omega, rfl, rfl, Below.refl _ _⟩
  case round =>
    obtain ⟨i, hi, rfl, rfl, hb⟩ := hrel
    have hle := hasP_le P a i
    by_cases hlt : (i : Int) < (n : Int)
    · have hF := find_ok (h.below hb) (a + i) (wf_small (by omega) (by omega))
      have hnx := hasP_next P a i
      have hbl := hb.size
      generalize (pg P (a + i)).1 = x at *
      generalize (pg P (a + i)).2 = y at *
      generalize hS1 : hasP P a (i + 1) = S1 at *
      generalize hasP P a i = S0 at *
      clear h
      cases ht : (P (a + i)).isSome with
      | true =>
        rw [ht] at hF hnx
        replace hnx : S1 = S0 + 1 := hnx
        clear ht
        go_wp2_with (go_at_call 215; refine hF.mono ?_; rintro e w1 ⟨rfl, b1⟩)
        go_roundg (n - (i + 1))
        case measure => omega
        case rel =>
          refine ⟨i + 1, by omega, by go_num, by rw [hS1, hnx]; go_num, ?_⟩
          have b2 := hb.trans (b1.mono hb.size)
          have := b2.size
          repeat first | exact b2 | refine Below.alloc ?_ (by first | omega | (simp <;> omega)) _ | refine Below.setCell ?_ (by first | omega | (simp <;> omega)) _
      | false =>
        rw [ht] at hF hnx
        replace hnx : S1 = S0 := hnx
        clear ht
        go_wp2_with (go_at_call 215; refine hF.mono ?_; rintro e w1 ⟨rfl, b1⟩)
        go_roundg (n - (i + 1))
        case measure => omega
        case rel =>
          refine ⟨i + 1, by omega, by go_num, by rw [hS1, hnx], ?_⟩
          have b2 := hb.trans (b1.mono hb.size)
          have := b2.size
          repeat first | exact b2 | refine Below.alloc ?_ (by first | omega | (simp <;> omega)) _ | refine Below.setCell ?_ (by first | omega | (simp <;> omega)) _
    · have hin : i = n := by omega
      subst hin
      go_wp2_with fail
      go_ret
      exact ⟨rfl, hb⟩

/-- What is told of a word that is wanted. -/
def useE (P : PM) (a k use : Int) : Int := match P a with | none => 7 | some p => if 0 ≤ k ∧ k < 8 then (if p.1 / use % 2 = 0 then 13 else 0) else 2

theorem and_use {p use : Int} (hp : 1 ≤ p ∧ p ≤ 3) (hu : use = 1 ∨ use = 2) : ∃ v, bits BinOp.and IntKind.i64 p use = v ∧ (v = 0 ↔ p / use % 2 = 0) := by
  obtain ⟨h1, h2⟩ := hp
  have : p = 1 ∨ p = 2 ∨ p = 3 := by omega
  rcases this with rfl | rfl | rfl <;> rcases hu with rfl | rfl
  · exact ⟨1, by kernel_rfl, by decide⟩
  · exact ⟨0, by kernel_rfl, by decide⟩
  · exact ⟨0, by kernel_rfl, by decide⟩
  · exact ⟨2, by kernel_rfl, by decide⟩
  · exact ⟨1, by kernel_rfl, by decide⟩
  · exact ⟨2, by kernel_rfl, by decide⟩

/-- A page's two cells. -/
theorem page_cells {W : World} {i : Nat} {x y : Int} (h : W.heap[i]? = some (.cells #[.int .i64 x, .int .i64 y] 315)) : W.cell? ⟨i, 0, none⟩ = some (.int .i64 x) ∧ W.cell? ⟨i, 1, none⟩ = some (.int .i64 y) ∧ W.frozen? ⟨i, 0, none⟩ = false ∧ W.frozen? ⟨i, 1, none⟩ = false := by
  refine ⟨by rw [cell_of_row W i 0 _ _ _ h]; rfl, by rw [cell_of_row W i 1 _ _ _ h]; rfl, by simp [World.frozen?, h], by simp [World.frozen?, h]⟩
theorem heap_new (W : World) (o : Obj) : (W.alloc o).heap[W.heap.size]? = some o := by
  show (W.heap.push o)[W.heap.size]? = _
  rw [Array.getElem?_push, if_pos rfl]

/-- A page's two cells, written; and a block more. -/
theorem page_set {W : World} {i : Nat} {x y : Value} {t : TypeId} (h : W.heap[i]? = some (.cells #[x, y] t)) (u v : Value) (o : Obj) : (((W.setCell ⟨i, 0, none⟩ u).setCell ⟨i, 1, none⟩ v).alloc o).heap[i]? = some (.cells #[u, v] t) := by
  have h1 := heap_setCell_same W i 0 u _ _ _ h
  have h2 := heap_setCell_same _ i 1 v _ _ _ h1
  rw [Below.heap_alloc _ _ _ (lt_of_heap h2), h2]; rfl
theorem page_set_cells {W : World} {i : Nat} {x y : Value} {t : TypeId} (h : W.heap[i]? = some (.cells #[x, y] t)) (u v : Value) (o : Obj) : (((W.setCell ⟨i, 0, none⟩ u).setCell ⟨i, 1, none⟩ v).alloc o).cell? ⟨i, 0, none⟩ = some u ∧ (((W.setCell ⟨i, 0, none⟩ u).setCell ⟨i, 1, none⟩ v).alloc o).cell? ⟨i, 1, none⟩ = some v := by
  have h2 := page_set h u v o
  exact ⟨by rw [cell_of_row _ i 0 _ _ _ h2]; rfl, by rw [cell_of_row _ i 1 _ _ _ h2]; rfl⟩

set_option maxHeartbeats 4000000 in
theorem usable_ok {n : Nat} (h : Sp w c b gc P) (hok : PgOk n P) (a k use : Int) (ha : (Lit.int .i64 a).wf = true) (hu : use = 1 ∨ use = 2) :
    Calls Tryz.prog 220 #[vp c, .int .i64 a, .int .i64 k, .int .i64 use] w fun e w' => ∃ x y, e = .returned (.tuple #[.agg #[.int .i64 x, .int .i64 y], errV (useE P a k use)]) ∧ (useE P a k use = 0 → P a = some (x, y)) ∧ Below w.heap.size w w' := by
  have e1 : ∀ o, Below w.heap.size w (w.alloc o) := fun o => (Below.refl _ w).alloc (Nat.le_refl _) _
  have hF := find_ok (h.below (e1 (.cells #[.int .i64 0, .int .i64 0] 315))) a ha
  have hn := heap_new w (.cells #[.int .i64 0, .int .i64 0] 315)
  have hln : (w.alloc (.cells #[.int .i64 0, .int .i64 0] 315)).heap.size = w.heap.size + 1 := by simp
  go_enter Tryz.func220, Tryz.ntmps220
  go_wp2_with fail
  refine hF.mono ?_
  rintro e w1 ⟨rfl, b1⟩
  have b2 : Below w.heap.size w w1 := (e1 _).trans (b1.mono (by omega))
  have hl1 := b1.size
  have hblk := (b1.block w.heap.size (by omega)).trans hn
  obtain ⟨r0, r1, f0, f1⟩ := page_cells hblk
  have s0 := fun u v o => (page_set_cells hblk u v o).1
  have s1 := fun u v o => (page_set_cells hblk u v o).2
  clear hblk
  have hl2 : w.heap.size < w1.heap.size := by omega
  have hne : w.heap.size ≠ w1.heap.size := by omega
  cases hP : P a with
  | none =>
    have hpg : pg P a = (0, 0) := by unfold pg; rw [hP]; rfl
    have hE : useE P a k use = 7 := by unfold useE; rw [hP]
    rw [hpg]
    have HP := hide hP
    clear hP h hok hpg hF hn b1
    simp only [Option.isSome_none]
    have HE := hide hE
    clear hE
    go_wp2_with fail
    refine bodyPost_ret (v := .tuple #[.agg #[.int .i64 0, .int .i64 0], enr 7]) (by simp [results, Tryz.results220, go_sem, s0, s1]) rfl ⟨0, 0, by rw [HE.out]; rfl, fun h => absurd (HE.out.symm.trans h) (by decide), ?_⟩
    repeat first | exact b2 | refine Below.alloc ?_ (by first | omega | (simp <;> omega)) _ | refine Below.setCell ?_ (by first | omega | (simp <;> omega)) _
  | some p =>
    have hpg : pg P a = p := by unfold pg; rw [hP]; rfl
    have hpr := hok.prot a p hP
    obtain ⟨v, hv, hv0⟩ := and_use hpr hu
    have hE : useE P a k use = if 0 ≤ k ∧ k < 8 then (if p.1 / use % 2 = 0 then 13 else 0) else 2 := by unfold useE; rw [hP]
    rw [hpg]
    have HP := hide hP
    clear hP h hok hpg hF hn b1
    obtain ⟨x, y⟩ := p
    simp only [Option.isSome_some]
    simp only at hE hpr hv hv0
    by_cases hk0 : k < 0
    · rw [if_neg (by omega)] at hE
      clear hv hv0
      have HE := hide hE
      clear hE
      go_wp2_with fail
      refine bodyPost_ret (v := .tuple #[.agg #[.int .i64 0, .int .i64 0], enr 2]) (by simp [results, Tryz.results220, go_sem, s0, s1]) rfl ⟨0, 0, by rw [HE.out]; rfl, fun h => absurd (HE.out.symm.trans h) (by decide), ?_⟩
      repeat first | exact b2 | refine Below.alloc ?_ (by first | omega | (simp <;> omega)) _ | refine Below.setCell ?_ (by first | omega | (simp <;> omega)) _
    · by_cases hk8 : 8 ≤ k
      · rw [if_neg (by omega)] at hE
        clear hv hv0
        have HE := hide hE
        clear hE
        go_wp2_with fail
        refine bodyPost_ret (v := .tuple #[.agg #[.int .i64 0, .int .i64 0], enr 2]) (by simp [results, Tryz.results220, go_sem, s0, s1]) rfl ⟨0, 0, by rw [HE.out]; rfl, fun h => absurd (HE.out.symm.trans h) (by decide), ?_⟩
        repeat first | exact b2 | refine Below.alloc ?_ (by first | omega | (simp <;> omega)) _ | refine Below.setCell ?_ (by first | omega | (simp <;> omega)) _
      · rw [if_pos (by omega)] at hE
        by_cases hz : v = 0
        · rw [if_pos (hv0.1 hz)] at hE
          rw [hz] at hv
          clear hv0 hz
          have HE := hide hE
          clear hE
          go_wp2_with fail
          refine bodyPost_ret (v := .tuple #[.agg #[.int .i64 0, .int .i64 0], enr 13]) (by simp [results, Tryz.results220, go_sem, s0, s1]) rfl ⟨0, 0, by rw [HE.out]; rfl, fun h => absurd (HE.out.symm.trans h) (by decide), ?_⟩
          repeat first | exact b2 | refine Below.alloc ?_ (by first | omega | (simp <;> omega)) _ | refine Below.setCell ?_ (by first | omega | (simp <;> omega)) _
        · rw [if_neg (fun h => hz (hv0.2 h))] at hE
          clear hv0
          have HE := hide hE
          clear hE
          go_wp2_with fail
          refine bodyPost_ret (v := .tuple #[.agg #[.int .i64 x, .int .i64 y], .nilIface]) (by simp [results, Tryz.results220, go_sem, s0, s1]) rfl ⟨x, y, by rw [HE.out]; rfl, fun _ => HP.out, ?_⟩
          repeat first | exact b2 | refine Below.alloc ?_ (by first | omega | (simp <;> omega)) _ | refine Below.setCell ?_ (by first | omega | (simp <;> omega)) _
end
end Go.Proofs.YtcfhanoekniaaaaGreatDoor

namespace Go.Proofs.YtcfhanoekniaaaaGreatDoor
open Go.RowKit Go.Shelf Go.Lib Go.Sort Go.Maps

section
variable {w w' : World} {c b gc : Nat} {P : PM}
set_option maxHeartbeats 1000000 in
theorem Sp.len (h : Sp w c b gc P) : Calls Tryz.prog 116 #[vp c] w fun e w' => e = .returned (.int .i64 (lenP P : Nat)) ∧ w' = w := by
  have c1 := h.c1
  have hm := h.map
  clear h
  go_enter Tryz.func116, Tryz.ntmps116
  go_wp2_with (at_len; refine wpList_klen rfl _ 319 rfl 315 Tryz.underlying319 gc _ _ rfl hm ?_)
  go_ret
  exact ⟨rfl, rfl⟩
end
end Go.Proofs.YtcfhanoekniaaaaGreatDoor

namespace Go.Proofs.YtcfhanoekniaaaaGreatDoor
open Go.RowKit Go.Shelf Go.Lib Go.Sort Go.Maps

/-- The counts, as a store has them: none for none. -/
def Rof (t : Int → Nat) : Int → Option Nat := fun x => if 0 ≤ x ∧ t x ≠ 0 then some (t x) else none
theorem Rof_val {t : Int → Nat} {x : Int} (hx : 0 ≤ x) : val (Rof t) x = t x := by
  unfold val Rof; by_cases h : t x = 0 <;> simp [h, hx]
theorem Rof_of {R : Int → Option Nat} {t : Int → Nat} (h1 : ∀ x, 0 ≤ x → val R x = t x) (h2 : ∀ x, x < 0 → R x = none) (h3 : ∀ x, R x ≠ some 0) : R = Rof t := by
  funext x; unfold Rof
  by_cases hx : 0 ≤ x
  · have e := h1 x hx
    cases hR : R x with
    | none => rw [val, hR] at e; rw [if_neg]; intro h; exact h.2 e.symm
    | some k =>
      rw [val, hR] at e
      have hk : k = t x := e
      have : k ≠ 0 := fun e0 => h3 x (by rw [hR, e0])
      rw [if_pos ⟨hx, by omega⟩, hk]
  · rw [if_neg (fun h => hx h.1), h2 x (by omega)]
theorem Rof_congr {t t' : Int → Nat} (h : ∀ x, 0 ≤ x → t x = t' x) : Rof t = Rof t' := by
  funext x; unfold Rof; by_cases hx : 0 ≤ x
  · rw [h x hx]
  · rw [if_neg (fun h => hx h.1), if_neg (fun h => hx h.1)]
theorem Rof_none {t : Int → Nat} {x : Int} (hx : 0 ≤ x) : Rof t x = none ↔ t x = 0 := by
  unfold Rof; by_cases h : t x = 0 <;> simp [h, hx]
theorem Rof_some {t : Int → Nat} {x : Int} (hx : 0 ≤ x) (h : t x ≠ 0) : (Rof t x).isSome = true := by
  unfold Rof; rw [if_pos ⟨hx, h⟩]; rfl

section
variable {E : St} {w w' : World} {D : Nat → Nat → Int} {R : Int → Option Nat} {A : Nat → Prop}
theorem Vs.rof (h : Vs E w D R A) {t : Int → Nat} (ht : ∀ x, 0 ≤ x → val R x = t x) : R = Rof t :=
  Rof_of ht (fun x hx => h.neg hx) (fun x e => by have := h.small x 0 e; omega)
end

/-- A space, over its store; o: how many pages of other spaces have each frame. -/
structure VS (E : St) (w : World) (c gc : Nat) (D : Nat → Nat → Int) (A : Nat → Prop) (P : PM) (o : Int → Nat) : Prop where
  st : Vs E w D (Rof fun f => sh P f + o f) A
  sp : Sp w c E.b gc P
  ok : PgOk E.n P
  dis : Dis P
  offc : ¬ vown E A c
  offg : ¬ vown E A gc
  gb : gc ≠ E.b
  gm : gc ≠ E.bm

def STurn (E : St) (w : World) (c gc : Nat) (A : Nat → Prop) (w' : World) (D : Nat → Nat → Int) (P : PM) (o : Int → Nat) : Prop :=
  ∃ A', VS E w' c gc D A' P o ∧ Fr (fun i => vown E A i ∨ i = gc) w w' ∧ ∀ i, i < w.heap.size → A' i → A i

section
variable {E : St} {w w' : World} {c gc : Nat} {D : Nat → Nat → Int} {A : Nat → Prop} {P : PM} {o : Int → Nat}

theorem STurn.refl (h : VS E w c gc D A P o) : STurn E w c gc A w D P o := ⟨A, h, Fr.refl _ _, fun _ _ h => h⟩
theorem STurn.trans {w1 w2 : World} {A1 : Nat → Prop} {D2 : Nat → Nat → Int} {P2 : PM} (f1 : Fr (fun i => vown E A i ∨ i = gc) w w1) (s1 : ∀ i, i < w.heap.size → A1 i → A i) (t : STurn E w1 c gc A1 w2 D2 P2 o) : STurn E w c gc A w2 D2 P2 o := by
  obtain ⟨A', v, f, s⟩ := t
  refine ⟨A', v, f1.trans f (fun i hi ho => ?_), fun i hi ha => s1 i hi (s i (Nat.lt_of_lt_of_le hi f1.size) ha)⟩
  rcases ho with (ho | ho) | ho
  · exact .inl (.inl (s1 i hi ho))
  · exact .inl (.inr ho)
  · exact .inr ho
theorem VS.keep (h : VS E w c gc D A P o) (hk : ∀ i, vown E A i → w'.heap[i]? = w.heap[i]?) (hb : w'.heap[E.b]? = w.heap[E.b]?) (hm : w'.heap[E.bm]? = w.heap[E.bm]?) (hc : w'.heap[c]? = w.heap[c]?) (hg : w'.heap[gc]? = w.heap[gc]?) : VS E w' c gc D A P o :=
  ⟨h.st.keep hk hb hm, h.sp.keep hc hg, h.ok, h.dis, h.offc, h.offg, h.gb, h.gm⟩
theorem VS.below (h : VS E w c gc D A P o) (hb : Below w.heap.size w w') : VS E w' c gc D A P o :=
  ⟨h.st.below hb, h.sp.below hb, h.ok, h.dis, h.offc, h.offg, h.gb, h.gm⟩
theorem VS.drewN (h : VS E w c gc D A P o) (q : Nat) : VS E (w.drewN q) c gc D A P o := h.keep (fun _ _ => rfl) rfl rfl rfl rfl
theorem VS.drew (h : VS E w c gc D A P o) : VS E w.drew c gc D A P o := h.keep (fun _ _ => rfl) rfl rfl rfl rfl
theorem VS.frame_some (h : VS E w c gc D A P o) {a : Int} (hf : frm P a ≠ -1) : (Rof (fun f => sh P f + o f) (frm P a)).isSome = true ∧ 0 ≤ frm P a ∧ frm P a < (E.n : Int) := by
  have h0 : 0 ≤ frm P a ∧ frm P a < (E.n : Int) := by rcases h.ok.frame a with e | e; exact absurd e hf; exact e
  have := sh_pos h.ok hf
  exact ⟨Rof_some h0.1 (by omega), h0⟩

/-- The pages' map turned, nothing else. -/
theorem VS.pages (h : VS E w c gc D A P o) {P' : PM} (hg : w.grownBy w' (some gc)) (pm : PMap w' gc (lenP P') (pgv P')) (hsh : ∀ f, 0 ≤ f → sh P' f = sh P f) (hok : PgOk E.n P') : VS E w' c gc D A P' o := by
  have hk : ∀ i, i < w.heap.size → i ≠ gc → w'.heap[i]? = w.heap[i]? := fun i hi hn => hg.block i hi (fun e => hn (Option.some.inj e))
  have hR : Rof (fun f => sh P' f + o f) = Rof (fun f => sh P f + o f) := Rof_congr (fun x hx => by rw [hsh x hx])
  refine ⟨by rw [hR]; exact h.st.keep (fun i hi => hk i (h.st.olt hi) (fun e => h.offg (e ▸ hi))) (hk _ h.st.blt (fun e => h.gb e.symm)) (hk _ h.st.mlt (fun e => h.gm e.symm)), ⟨(hk c h.sp.lt h.sp.ne).trans h.sp.head, pm⟩, hok, fun f hf => by rw [hsh f hf]; exact h.dis f hf, h.offc, h.offg, h.gb, h.gm⟩

/-- How many of the first pages have a frame. -/
def resTo (P : PM) (i : Nat) : Nat := sumTo (fun a => if frm P a = -1 then 0 else 1) 0 i
theorem resTo_next (P : PM) (i : Nat) : resTo P (i + 1) = resTo P i + if frm P i = -1 then 0 else 1 := by unfold resTo; rw [sumTo_last, Nat.zero_add]
theorem resTo_le (P : PM) (i : Nat) : resTo P i ≤ i := by
  have := sumTo_const_le (g := fun a : Nat => if frm P a = -1 then 0 else 1) (d := 1) i 0 (fun i => by split <;> omega)
  unfold resTo; omega

set_option maxHeartbeats 4000000 in
theorem Sp.resident {b : Nat} (h : Sp w c b gc P) : Calls Tryz.prog 117 #[vp c] w fun e w' => e = .returned (.int .i64 (resP P : Nat)) ∧ Below w.heap.size w w' := by
  go_enter Tryz.func117, Tryz.ntmps117
  go_wp2_with fail
  go_loopg [3, 7] 64 (fun mm s3 s7 wr => ∃ i : Nat, i + mm = 64 ∧ s7 = .int .i64 (i : Int) ∧ s3 = .int .i64 (resTo P i : Nat) ∧ Below w.heap.size w wr)
  case atStart => exact ⟨0, by omega, rfl, rfl, Below.refl _ _⟩
  case round =>
    obtain ⟨i, hi, rfl, rfl, hb⟩ := hrel
    have hle := resTo_le P i
    by_cases hlt : (i : Int) < 64
    · have hF := find_ok (h.below hb) (i : Int) (wf_small (by omega) (by omega))
      have hnx := resTo_next P i
      have hbl := hb.size
      have hpf := pg_frm (P := P) (a := (i : Int))
      have hfn := frm_none (P := P) (a := (i : Int))
      generalize (pg P (i : Int)).1 = x at *
      generalize (pg P (i : Int)).2 = y at *
      generalize hS1 : resTo P (i + 1) = S1 at *
      generalize resTo P i = S0 at *
      clear h
      cases hP : P (i : Int) with
      | none =>
        rw [hP] at hF hpf
        rw [hfn hP, if_pos rfl] at hnx
        clear hpf hfn hP
        simp only [Option.isSome_none] at hF
        go_wp2_with (go_at_call 215; refine hF.mono ?_; rintro e w1 ⟨rfl, b1⟩)
        go_roundg (64 - (i + 1))
        case measure => omega
        case rel =>
          refine ⟨i + 1, by omega, by go_num, by rw [hS1, hnx]; rfl, ?_⟩
          have b2 := hb.trans (b1.mono hb.size)
          have := b2.size
          repeat first | exact b2 | refine Below.alloc ?_ (by first | omega | (simp <;> omega)) _ | refine Below.setCell ?_ (by first | omega | (simp <;> omega)) _
      | some p =>
        rw [hP] at hF hpf
        simp only [Option.isSome_some, forall_const] at hF hpf
        rw [← hpf] at hnx
        clear hpf hfn hP
        by_cases hy : y = -1
        · rw [if_pos hy] at hnx
          subst hy
          go_wp2_with (go_at_call 215; refine hF.mono ?_; rintro e w1 ⟨rfl, b1⟩)
          go_roundg (64 - (i + 1))
          case measure => omega
          case rel =>
            refine ⟨i + 1, by omega, by go_num, by rw [hS1, hnx]; rfl, ?_⟩
            have b2 := hb.trans (b1.mono hb.size)
            have := b2.size
            repeat first | exact b2 | refine Below.alloc ?_ (by first | omega | (simp <;> omega)) _ | refine Below.setCell ?_ (by first | omega | (simp <;> omega)) _
        · rw [if_neg hy] at hnx
          go_wp2_with (go_at_call 215; refine hF.mono ?_; rintro e w1 ⟨rfl, b1⟩)
          go_roundg (64 - (i + 1))
          case measure => omega
          case rel =>
            refine ⟨i + 1, by omega, by go_num, by rw [hS1, hnx]; go_num, ?_⟩
            have b2 := hb.trans (b1.mono hb.size)
            have := b2.size
            repeat first | exact b2 | refine Below.alloc ?_ (by first | omega | (simp <;> omega)) _ | refine Below.setCell ?_ (by first | omega | (simp <;> omega)) _
    · have hin : i = 64 := by omega
      subst hin
      have hr : resP P = resTo P 64 := rfl
      rw [← hr]
      go_wp2_with fail
      go_ret
      exact ⟨rfl, hb⟩

/-- A page's words. -/
def wd (P : PM) (D : Nat → Nat → Int) (a : Int) (k : Nat) : Int := if frm P a = -1 then 0 else D (frm P a).toNat k
/-- What Load answers. -/
def loadV (P : PM) (D : Nat → Nat → Int) (a k : Int) : Int := if useE P a k 1 = 0 then wd P D a k.toNat else 0

set_option maxHeartbeats 4000000 in
theorem VS.load (h : VS E w c gc D A P o) (a k : Int) (ha : (Lit.int .i64 a).wf = true) : Calls Tryz.prog 124 #[vp c, .int .i64 a, .int .i64 k] w fun e w' => e = .returned (.tuple #[.int .i64 (loadV P D a k), errV (useE P a k 1)]) ∧ Below w.heap.size w w' := by
  have hU := usable_ok h.sp h.ok a k 1 ha (.inl rfl)
  obtain ⟨V, hV⟩ : ∃ V, loadV P D a k = V := ⟨_, rfl⟩
  rw [hV]
  go_enter Tryz.func124, Tryz.ntmps124
  go_wp2_with fail
  refine hU.mono ?_
  rintro e w1 ⟨x, y, rfl, hxy, b1⟩
  have bA : Below w.heap.size w (w1.alloc (.cells #[.int .i64 x, .int .i64 y] 315)) := b1.alloc b1.size _
  by_cases hz : useE P a k 1 = 0
  · have hP := hxy hz
    have hf := frm_some hP
    simp only at hf
    rw [loadV, if_pos hz] at hV
    have hk : 0 ≤ k ∧ k < 8 := by
      apply Classical.byContradiction; intro hk
      unfold useE at hz; rw [hP] at hz; simp only [if_neg hk] at hz; omega
    have hev : errV (useE P a k 1) = .nilIface := by rw [hz]; rfl
    rw [hev]
    have HE := hide hev
    clear hxy hz hU hev hP
    by_cases hy : y = -1
    · rw [wd, if_pos (by rw [hf]; exact hy)] at hV
      subst hy
      clear h
      go_wp2_with fail
      go_ret2
      exact ⟨by rw [HE.out, ← hV]; rfl, bA⟩
    · rw [wd, if_neg (by rw [hf]; exact hy), hf] at hV
      have hfr : 0 ≤ y ∧ y < (E.n : Int) := by rcases h.ok.frame a with e | e <;> rw [hf] at e <;> omega
      have h1 := h.below bA
      have c0 := h1.sp.c0
      have d0 := h1.st.c0
      have hG : ∀ q, Calls Tryz.prog 229 #[mp E.bm, .int .i64 y, .int .i64 k] ((w1.alloc (.cells #[.int .i64 x, .int .i64 y] 315)).drewN q) fun e w' => e = .returned (.tuple #[.int .i64 V, .nilIface]) ∧ ∃ q', w' = ((w1.alloc (.cells #[.int .i64 x, .int .i64 y] 315)).drewN q).drewN q' := fun q => by
        refine (get_ok (h1.drewN q).st.mem y k hfr.1 hfr.2 hk.1 hk.2).mono ?_
        rintro e w' ⟨he, hw⟩
        rw [hV] at he
        exact ⟨he, 0, hw⟩
      clear h h1 hf hV
      go_upto_region 4 with fail
      go_quiet (first | (go_at_call 229; exact Calls.quiet_of (hG _)))
      go_wp2_with fail
      go_ret2
      exact ⟨by rw [HE.out]; rfl, bA.os, bA.tape, bA.output, bA.size, bA.block⟩
  · rw [loadV, if_neg hz] at hV
    have hev : errV (useE P a k 1) = enr (useE P a k 1) := by unfold errV; rw [if_neg hz]
    rw [hev]
    have HE := hide hev
    clear hxy hU hz h hev
    go_wp2_with fail
    go_ret2
    exact ⟨by rw [HE.out, ← hV]; rfl, bA⟩
end
end Go.Proofs.YtcfhanoekniaaaaGreatDoor

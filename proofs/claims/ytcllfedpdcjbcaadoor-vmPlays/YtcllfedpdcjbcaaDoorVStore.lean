/- Package vm: a store as it lies in memory: its words, its pool, and how many pages have each frame; what its own functions do, by their Go text. -/
import Derived.Test.YtcllfedpdcjbcaaDoorPages
import Derived.Test.YtcllfedpdcjbcaaDoorNew
import Derived.Test.YtcllfedpdcjbcaaDoorKeys2
import Derived.Test.YtcllfedpdcjbcaaDoorLefts
namespace Go.Proofs.YtcllfedpdcjbcaaDoor
open Go.RowKit Go.Shelf Go.Lib Go.Sort Go.Maps

/-- Where a store lies: itself, its memory, the words, the pool, the counts; how many frames. -/
structure St where
  b : Nat
  bm : Nat
  sm : Nat
  bp : Nat
  g : Nat
  n : Nat

abbrev vp (b : Nat) : Value := .pointer (some ⟨b, 0, none⟩)

structure Vs (E : St) (w : World) (D : Nat → Nat → Int) (R : Int → Option Nat) (A : Nat → Prop) : Prop where
  head : w.heap[E.b]? = some (.cells #[mp E.bm, pp E.bp, .map (some E.g)] 165)
  mem : Mem w E.bm E.sm E.n D
  pool : ∃ U T, At w E.bp E.n U T 256 A ∧ Sole R T
  map : PMap w E.g (num R E.n) (tm R)
  small : ∀ x k, R x = some k → 1 ≤ k ∧ k ≤ 1000
  offb : ¬ A E.b
  offm : ¬ A E.bm
  offs : ¬ A E.sm
  offg : ¬ A E.g
  nbs : E.b ≠ E.sm
  nbg : E.b ≠ E.g
  nmg : E.bm ≠ E.g
  nsg : E.sm ≠ E.g
  n1 : 1 ≤ E.n

/-- What is a store's own, and is written. -/
def vown (E : St) (A : Nat → Prop) (i : Nat) : Prop := A i ∨ i = E.sm ∨ i = E.g

def VTurn (E : St) (w : World) (A : Nat → Prop) (w' : World) (D : Nat → Nat → Int) (R : Int → Option Nat) : Prop :=
  ∃ A', Vs E w' D R A' ∧ Fr (vown E A) w w' ∧ ∀ i, i < w.heap.size → A' i → A i

section
variable {E : St} {w w' : World} {D : Nat → Nat → Int} {R : Int → Option Nat} {A : Nat → Prop}

theorem Vs.n256 (h : Vs E w D R A) : E.n ≤ 256 := by obtain ⟨U, T, a, _⟩ := h.pool; exact a.n256
theorem Vs.within (h : Vs E w D R A) : Within R E.n := by
  obtain ⟨U, T, a, s⟩ := h.pool
  intro x hx
  refine a.inv.within x ?_
  rw [s x]; cases e : R x with
  | none => rw [e] at hx; cases hx
  | some k => rfl
theorem Vs.lt (h : Vs E w D R A) {i : Nat} (hi : A i) : i < w.heap.size := by obtain ⟨U, T, a, _⟩ := h.pool; exact a.lt' hi
theorem Vs.blt (h : Vs E w D R A) : E.b < w.heap.size := lt_of_heap h.head
theorem Vs.slt (h : Vs E w D R A) : E.sm < w.heap.size := h.mem.lt_s h.n1
theorem Vs.mlt (h : Vs E w D R A) : E.bm < w.heap.size := h.mem.lt_b
theorem Vs.glt (h : Vs E w D R A) : E.g < w.heap.size := h.map.lt
theorem Vs.olt (h : Vs E w D R A) {i : Nat} (hi : vown E A i) : i < w.heap.size := by
  rcases hi with hi | rfl | rfl
  · exact h.lt hi
  · exact h.slt
  · exact h.glt
theorem Vs.bno (h : Vs E w D R A) : ¬ vown E A E.b := by
  rintro (hi | e | e)
  · exact h.offb hi
  · exact h.nbs e
  · exact h.nbg e
theorem Vs.mno (h : Vs E w D R A) : ¬ vown E A E.bm := by
  rintro (hi | e | e)
  · exact h.offm hi
  · exact h.mem.ne e
  · exact h.nmg e
theorem Vs.keep (h : Vs E w D R A) (hk : ∀ i, vown E A i → w'.heap[i]? = w.heap[i]?) (hb : w'.heap[E.b]? = w.heap[E.b]?) (hm : w'.heap[E.bm]? = w.heap[E.bm]?) : Vs E w' D R A := by
  obtain ⟨U, T, a, s⟩ := h.pool
  exact ⟨hb.trans h.head, h.mem.keep hm (hk _ (.inr (.inl rfl))), ⟨U, T, a.keep' (fun i hi => hk i (.inl hi)), s⟩, h.map.keep (hk _ (.inr (.inr rfl))), h.small, h.offb, h.offm, h.offs, h.offg, h.nbs, h.nbg, h.nmg, h.nsg, h.n1⟩
theorem Vs.below (h : Vs E w D R A) (hb : Below w.heap.size w w') : Vs E w' D R A :=
  h.keep (fun i hi => hb.block i (h.olt hi)) (hb.block _ h.blt) (hb.block _ h.mlt)
theorem Vs.c0 (h : Vs E w D R A) : w.cell? ⟨E.b, 0, none⟩ = some (mp E.bm) := by rw [cell_of_row w E.b 0 _ _ _ h.head]; rfl
theorem Vs.c1 (h : Vs E w D R A) : w.cell? ⟨E.b, 1, none⟩ = some (pp E.bp) := by rw [cell_of_row w E.b 1 _ _ _ h.head]; rfl
theorem Vs.c2 (h : Vs E w D R A) : w.cell? ⟨E.b, 2, none⟩ = some (.map (some E.g)) := by rw [cell_of_row w E.b 2 _ _ _ h.head]; rfl
theorem Vs.val_lt (h : Vs E w D R A) (x : Int) : val R x ≤ 1000 := by
  unfold val; cases e : R x with
  | none => simp
  | some k => exact (h.small x k e).2
theorem Vs.val_pos (h : Vs E w D R A) {x : Int} (hx : (R x).isSome = true) : 1 ≤ val R x := by
  unfold val; cases e : R x with
  | none => rw [e] at hx; cases hx
  | some k => exact (h.small x k e).1
theorem Vs.neg (h : Vs E w D R A) {x : Int} (hx : x < 0) : R x = none := by
  cases e : R x with
  | none => rfl
  | some k => have := h.within x (by rw [e]; rfl); omega
theorem tm_val (R : Int → Option Nat) (x : Int) : (tm R x).getD (.int .i64 0) = .int .i64 (val R x : Int) := by
  unfold tm val; cases R x <;> rfl
theorem tm_isSome (R : Int → Option Nat) (x : Int) : (tm R x).isSome = (R x).isSome := by unfold tm; cases R x <;> rfl
theorem tm_putC (R : Int → Option Nat) (x : Int) (k : Nat) : (fun i => if i = x then some (.int .i64 (k : Int)) else tm R i) = tm (putC R x k) := tm_put R x k

theorem VTurn.refl (h : Vs E w D R A) : VTurn E w A w D R := ⟨A, h, Fr.refl _ _, fun _ _ h => h⟩
theorem VTurn.trans {w1 w2 : World} {D2 : Nat → Nat → Int} {R2 : Int → Option Nat} {A1 : Nat → Prop} (h1 : Fr (vown E A) w w1) (s1 : ∀ i, i < w.heap.size → A1 i → A i) (t : VTurn E w1 A1 w2 D2 R2) : VTurn E w A w2 D2 R2 := by
  obtain ⟨A', v, f, s⟩ := t
  refine ⟨A', v, h1.trans f (fun i hi ho => ?_), fun i hi ha => s1 i hi (s i (Nat.lt_of_lt_of_le hi h1.size) ha)⟩
  rcases ho with ho | ho
  · exact .inl (s1 i hi ho)
  · exact .inr ho

/-- The counts' map turned, nothing else; the pool knows of no other frames. -/
theorem Vs.count (h : Vs E w D R A) {R' : Int → Option Nat} (hg : w.grownBy w' (some E.g)) (pm : PMap w' E.g (num R' E.n) (tm R')) (hsm : ∀ x k, R' x = some k → 1 ≤ k ∧ k ≤ 1000) (hs : ∀ x, (R' x).isSome = (R x).isSome) : VTurn E w A w' D R' := by
  obtain ⟨U, T, a, s⟩ := h.pool
  have hk : ∀ i, i < w.heap.size → i ≠ E.g → w'.heap[i]? = w.heap[i]? := fun i hi hn => hg.block i hi (fun e => hn (Option.some.inj e))
  refine ⟨A, ⟨(hk _ h.blt h.nbg).trans h.head, h.mem.keep (hk _ h.mlt h.nmg) (hk _ h.slt h.nsg), ⟨U, T, a.keep' (fun i hi => hk i (a.lt' hi) (fun e => h.offg (e ▸ hi))), fun x => ?_⟩, pm, hsm, h.offb, h.offm, h.offs, h.offg, h.nbs, h.nbg, h.nmg, h.nsg, h.n1⟩, (Fr.grown hg).mono (fun i _ e => .inr (.inr e)), fun _ _ h => h⟩
  rw [s x]
  have := hs x
  cases e : R' x <;> cases e' : R x <;> rw [e, e'] at this <;> first | rfl | cases this

theorem Vs.left (h : Vs E w D R A) : Calls Tryd.prog 75 #[vp E.b] w fun e w' => e = .returned (.int .i64 ((E.n - num R E.n : Nat) : Int)) ∧ w' = w := by
  obtain ⟨U, T, a, s⟩ := h.pool
  have hl := left_num a.inv s
  have e0 : E.n - num R E.n = cnt U 0 E.n := by omega
  have c1 := h.c1
  have hL := left_ok a
  rw [e0]
  go_enter Tryd.func75, Tryd.ntmps75
  go_wp2_with (go_at_call 28; refine hL.mono ?_; rintro e w1 ⟨rfl, h1⟩; subst w1)
  go_ret
  exact ⟨rfl, rfl⟩

theorem Vs.isOwn (h : Vs E w D R A) (f : Int) (hf : (Lit.int .i64 f).wf = true) : Calls Tryd.prog 109 #[vp E.b, .int .i64 f] w fun e w' => e = .returned (.bool (decide (val R f = 1))) ∧ w' = w := by
  have c2 := h.c2
  have hv := h.val_lt f
  have hm := h.map
  have ht := tm_val R f
  go_enter Tryd.func109, Tryd.ntmps109
  go_wp2_with (at_lookup; refine wpList_klook rfl _ _ 65 rfl 3 Tryd.underlying65 _ (zero_int _) E.g _ _ rfl hm f rfl hf ?_; rw [ht])
  go_ret
  refine ⟨?_, rfl⟩
  by_cases e : val R f = 1 <;> simp [e]
  omega

theorem Vs.share_none (_h : Vs E w D R A) : Calls Tryd.prog 111 #[vp E.b, .int .i64 (-1)] w fun e w' => e = .returned (.tuple #[]) ∧ w' = w := by
  go_enter Tryd.func111, Tryd.ntmps111
  go_wp2_with fail
  go_end0
  exact ⟨rfl, rfl⟩

set_option maxHeartbeats 1000000 in
theorem Vs.share_ok (h : Vs E w D R A) (f : Int) (hf : (R f).isSome = true) (hv : val R f < 1000) : Calls Tryd.prog 111 #[vp E.b, .int .i64 f] w fun e w' => e = .returned (.tuple #[]) ∧ VTurn E w A w' D (putC R f (val R f + 1)) := by
  have c2 := h.c2
  have hm := h.map
  have ht := tm_val R f
  have hw := h.within f hf
  have hn := h.n256
  have hwf : (Lit.int .i64 f).wf = true := wf_small hw.1 (by omega)
  have hne : ¬ f = -1 := by omega
  have hsz : num R E.n < maxLen := by have := num_le R E.n; unfold maxLen; omega
  have hfin : ∀ w', PMap w' E.g (if (tm R f).isSome then num R E.n else num R E.n + 1) (fun i => if i = f then some (.int .i64 ((val R f : Int) + 1)) else tm R i) → w.grownBy w' (some E.g) → VTurn E w A w' D (putC R f (val R f + 1)) := by
    intro w' pm hg
    rw [tm_isSome, if_pos hf, show ((val R f : Int) + 1) = ((val R f + 1 : Nat) : Int) by omega, tm_putC] at pm
    refine h.count hg (by rw [num_put_old hf]; exact pm) (fun x k hk => ?_) (fun x => ?_)
    · unfold putC at hk; split at hk
      · cases hk; omega
      · exact h.small x k hk
    · unfold putC; split
      · rename_i e; rw [e, hf]; rfl
      · rfl
  clear h
  generalize val R f = v at *
  go_enter Tryd.func111, Tryd.ntmps111
  go_wp2_with (first
    | (at_lookup; refine wpList_klook rfl _ _ 65 rfl 3 Tryd.underlying65 _ (zero_int _) E.g _ _ rfl hm f rfl hwf ?_; rw [ht])
    | (at_mapUpdate; refine wpList_kput rfl _ _ _ 65 rfl 3 Tryd.underlying65 E.g _ _ rfl hm hsz f rfl hwf (.int .i64 ((v : Int) + 1)) rfl ?_; intro w1 pm1 g1))
  go_end0
  exact ⟨rfl, hfin _ pm1 g1⟩

/-- What is left of the counts when a page lets a frame go. -/
def dropR (R : Int → Option Nat) (f : Int) : Int → Option Nat := fun x => if x = f then (if val R f ≤ 1 then none else some (val R f - 1)) else R x
theorem dropR_val {R : Int → Option Nat} {f x : Int} : val (dropR R f) x = if x = f then val R f - 1 else val R x := by
  unfold val dropR; by_cases e : x = f
  · simp only [if_pos e]; split
    · rename_i h; unfold val at h; rw [Option.getD_none]; omega
    · rfl
  · simp only [if_neg e]
theorem dropR_neg {R : Int → Option Nat} (h : R (-1) = none) : dropR R (-1) = R := by
  funext x; unfold dropR; split
  · rename_i e; rw [e, h]; simp [val, h]
  · rfl
theorem num_dropR_last {R : Int → Option Nat} {n : Nat} {f : Int} (h0 : 0 ≤ f) (h1 : f < (n : Int)) (hf : (R f).isSome = true) (hv : val R f ≤ 1) : num (dropR R f) n + 1 = num R n := by
  have ef : ((f.toNat : Nat) : Int) = f := by omega
  refine (sumTo_set (f := f.toNat) (d := 1) ?_ (fun i hi => ?_) n 0 (by omega) (by omega)).symm
  · simp [dropR, ef, hf, hv]
  · have : ¬ (i : Int) = f := by omega
    simp [dropR, this]
theorem dropR_more {R : Int → Option Nat} {f : Int} (hv : 1 < val R f) : dropR R f = putC R f (val R f - 1) := by
  funext x; unfold dropR putC; split
  · rw [if_neg (by omega)]
  · rfl
theorem dropR_last {R : Int → Option Nat} {f : Int} (hv : val R f ≤ 1) : dropR R f = fun x => if x = f then none else R x := by
  funext x; unfold dropR; rw [if_pos hv]

set_option maxHeartbeats 1000000 in
theorem drop_nil (b : Nat) (w : World) : Calls Tryd.prog 131 #[vp b, .int .i64 (-1)] w fun e w' => e = .returned (.tuple #[]) ∧ w' = w := by
  go_enter Tryd.func131, Tryd.ntmps131
  go_wp2_with fail
  (try simp only [Exit.inBlock, Exit.then]); refine bodyPost_ret (results_none rfl _ _ _) rfl ?_
  exact ⟨rfl, rfl⟩

theorem Vs.drop_none (h : Vs E w D R A) : Calls Tryd.prog 131 #[vp E.b, .int .i64 (-1)] w fun e w' => e = .returned (.tuple #[]) ∧ VTurn E w A w' D (dropR R (-1)) := by
  refine (drop_nil E.b w).mono ?_
  rintro e w' ⟨he, hw⟩
  subst hw
  exact ⟨he, by rw [dropR_neg (h.neg (by omega : (-1 : Int) < 0))]; exact VTurn.refl h⟩

set_option maxHeartbeats 2000000 in
theorem drop_raw {b g s : Nat} (c2 : w.cell? ⟨b, 2, none⟩ = some (.map (some g))) (hm : PMap w g s (tm R)) (hs : s < maxLen) (hbg : b ≠ g) (f : Int) (h0 : 0 ≤ f) (h1 : f < 1000) (hv1 : 1 < val R f) (hvl : val R f ≤ 1000) : Calls Tryd.prog 131 #[vp b, .int .i64 f] w fun e w' => e = .returned (.tuple #[]) ∧ PMap w' g s (tm (dropR R f)) ∧ w.grownBy w' (some g) := by
  have hf : (tm R f).isSome = true := by
    rw [tm_isSome]; cases e : R f with
    | none => rw [val, e] at hv1; simp at hv1
    | some k => rfl
  have ht := tm_val R f
  have hwf : (Lit.int .i64 f).wf = true := wf_small h0 (by omega)
  have hne : ¬ f = -1 := by omega
  have hfin : ∀ w', PMap w' g (if (tm R f).isSome then s else s + 1) (fun i => if i = f then some (.int .i64 ((val R f : Int) - 1)) else tm R i) → PMap w' g s (tm (dropR R f)) := by
    intro w' pm
    rw [if_pos hf, show ((val R f : Int) - 1) = ((val R f - 1 : Nat) : Int) by omega, tm_putC] at pm
    rw [dropR_more hv1]; exact pm
  generalize val R f = v at *
  have hbs : some b ≠ some g := fun e => hbg (Option.some.inj e)
  go_enter Tryd.func131, Tryd.ntmps131
  go_wp2_with (first
    | (at_lookup; refine wpList_klook rfl _ _ 65 rfl 3 Tryd.underlying65 _ (zero_int _) g _ _ rfl hm f rfl hwf ?_; rw [ht])
    | (at_lookup; refine wpList_klook rfl _ _ 65 rfl 3 Tryd.underlying65 _ (zero_int _) g _ _ rfl pm1 f rfl hwf ?_; simp only [if_true, Option.getD_some])
    | (at_mapUpdate; refine wpList_kput rfl _ _ _ 65 rfl 3 Tryd.underlying65 g _ _ rfl hm hs f rfl hwf (.int .i64 ((v : Int) - 1)) rfl ?_; intro w1 pm1 g1; have c2' := g1.cell c2 hbs))
  go_end0
  exact ⟨rfl, hfin _ pm1, g1⟩

theorem some_of_one {R : Int → Option Nat} {f : Int} (hv : 1 ≤ val R f) : (R f).isSome = true := by
  cases e : R f with
  | none => rw [val, e] at hv; simp at hv
  | some k => rfl
theorem num_dropR_more {R : Int → Option Nat} {n : Nat} {f : Int} (hv : 1 < val R f) : num (dropR R f) n = num R n := by
  rw [dropR_more hv]; exact num_put_old (some_of_one (by omega))
theorem dropR_some {R : Int → Option Nat} {f : Int} (hv : 1 < val R f) (x : Int) : (dropR R f x).isSome = (R x).isSome := by
  rw [dropR_more hv]; unfold putC; split
  · rename_i e; rw [e, some_of_one (by omega)]; rfl
  · rfl

theorem Vs.drop_more (h : Vs E w D R A) (f : Int) (hv1 : 1 < val R f) : Calls Tryd.prog 131 #[vp E.b, .int .i64 f] w fun e w' => e = .returned (.tuple #[]) ∧ VTurn E w A w' D (dropR R f) := by
  have hw := h.within f (some_of_one (by omega))
  have hn := h.n256
  refine (drop_raw h.c2 h.map (by have := num_le R E.n; unfold maxLen; omega) h.nbg f hw.1 (by omega) hv1 (h.val_lt f)).mono ?_
  rintro e w' ⟨he, pm, hg⟩
  refine ⟨he, h.count hg (by rw [num_dropR_more hv1]; exact pm) (fun x k hk => ?_) (dropR_some hv1)⟩
  rw [dropR_more hv1] at hk
  unfold putC at hk; split at hk
  · cases hk; have := h.val_lt f; omega
  · exact h.small x k hk

set_option maxHeartbeats 2000000 in
theorem Vs.drop_last (h : Vs E w D R A) (f : Int) (hv1 : val R f = 1) : Calls Tryd.prog 131 #[vp E.b, .int .i64 f] w fun e w' => e = .returned (.tuple #[]) ∧ VTurn E w A w' D (dropR R f) := by
  have hf : (R f).isSome = true := by
    cases e : R f with
    | none => rw [val, e] at hv1; simp at hv1
    | some k => rfl
  have c1 := h.c1
  have c2 := h.c2
  have hbg := h.nbg
  have hm := h.map
  have ht := tm_val R f
  have hw := h.within f hf
  have hn := h.n256
  have hwf : (Lit.int .i64 f).wf = true := wf_small hw.1 (by omega)
  have hne : ¬ f = -1 := by omega
  have hsz : num R E.n < maxLen := by have := num_le R E.n; unfold maxLen; omega
  have hnum := num_dropR_last hw.1 hw.2 hf (by omega)
  have hfin : ∀ w2 s, PMap w2 E.g s (fun i => if i = f then none else if i = f then some (.int .i64 0) else tm R i) → s + 1 = num R E.n → Fr (· = E.g) w w2 → Calls Tryd.prog 26 #[pp E.bp, .int .i64 f, .int .i64 0] w2 fun e w' => e = .returned .nilIface ∧ VTurn E w A w' D (dropR R f) := by
    intro w2 s pm hs fr
    obtain ⟨U, T, a, so⟩ := h.pool
    have hT : T f = some 0 := by
      rw [so f]; cases e : R f with
      | none => rw [e] at hf; cases hf
      | some k => rfl
    have hk : ∀ i, i < w.heap.size → i ≠ E.g → w2.heap[i]? = w.heap[i]? := fun i hi hn => fr.block i hi hn
    have a2 := a.keep' (fun i hi => hk i (a.lt' hi) (fun e => h.offg (e ▸ hi)))
    obtain ⟨q, rfl⟩ : ∃ q : Nat, f = (q : Int) := ⟨f.toNat, by omega⟩
    refine (give0 a2 q hT).mono ?_
    rintro e w' ⟨he, U', A', a', fr', sub'⟩
    have hl : ∀ i, i < w.heap.size → i < w2.heap.size := fun i hi => Nat.lt_of_lt_of_le hi fr.size
    have hk' : ∀ i, i < w.heap.size → i ≠ E.g → ¬ A i → w'.heap[i]? = w.heap[i]? := fun i hi hn hA => (fr'.block i (hl i hi) hA).trans (hk i hi hn)
    have hpm : (fun i => if i = (q : Int) then none else if i = (q : Int) then some (.int .i64 0) else tm R i) = tm (dropR R q) := by
      rw [dropR_last (by omega)]; funext i; unfold tm; by_cases e : i = (q : Int) <;> simp [e]
    rw [hpm] at pm
    refine ⟨he, A', ⟨(hk' _ h.blt h.nbg h.offb).trans h.head, h.mem.keep (hk' _ h.mlt h.nmg h.offm) (hk' _ h.slt h.nsg h.offs), ⟨U', _, a', fun x => ?_⟩, ?_, fun x k hx => ?_, fun ha => h.offb (sub' _ (hl _ h.blt) ha), fun ha => h.offm (sub' _ (hl _ h.mlt) ha), fun ha => h.offs (sub' _ (hl _ h.slt) ha), fun ha => h.offg (sub' _ (hl _ h.glt) ha), h.nbs, h.nbg, h.nmg, h.nsg, h.n1⟩, ?_, fun i hi ha => sub' i (hl i hi) ha⟩
    · rw [dropR_last (by omega)]; simp only; split
      · rfl
      · exact so x
    · rw [show num (dropR R q) E.n = s by omega]
      exact pm.keep (fr'.block _ pm.lt h.offg)
    · rw [dropR_last (by omega)] at hx; simp only at hx; split at hx
      · cases hx
      · exact h.small x k hx
    · exact (fr.mono (fun i _ e => .inr (.inr e))).trans fr' (fun i _ ha => .inl ha)
  have hsm : (tm R f).isSome = true := by rw [tm_isSome]; exact hf
  have hnp : 1 ≤ num R E.n := by omega
  clear h
  replace ht : (tm R f).getD (.int .i64 0) = .int .i64 1 := by rw [ht, hv1]; rfl
  generalize num R E.n = nn at *
  have hbs : some E.b ≠ some E.g := fun e => hbg (Option.some.inj e)
  go_enter Tryd.func131, Tryd.ntmps131
  go_wp2_with (first
    | (at_lookup; refine wpList_klook rfl _ _ 65 rfl 3 Tryd.underlying65 _ (zero_int _) E.g _ _ rfl hm f rfl hwf ?_; rw [ht])
    | (at_lookup; refine wpList_klook rfl _ _ 65 rfl 3 Tryd.underlying65 _ (zero_int _) E.g _ _ rfl pm1 f rfl hwf ?_; simp only [if_true, Option.getD_some])
    | (at_mapUpdate; refine wpList_kput rfl _ _ _ 65 rfl 3 Tryd.underlying65 E.g _ _ rfl hm hsz f rfl hwf (.int .i64 0) rfl ?_; intro w1 pm1 g1; have c2' := g1.cell c2 hbs)
    | (at_delete; refine wpList_kdel rfl _ _ 65 rfl 3 Tryd.underlying65 E.g _ _ rfl pm1 f rfl hwf ?_; intro w2 pm2 g2; have c1' := g2.cell (g1.cell c1 hbs) hbs)
    | (go_at_call 26; refine (hfin _ _ pm2 (by simp [hsm]; omega) ((Fr.grown g1).trans (Fr.grown g2) (fun _ _ h => h))).mono ?_; rintro e w3 ⟨rfl, t3⟩))
  go_end0
  exact ⟨rfl, t3⟩

/-- drop, of no frame or of one that there is. -/
theorem Vs.drop_ok (h : Vs E w D R A) (f : Int) (hf : f = -1 ∨ (R f).isSome = true) : Calls Tryd.prog 131 #[vp E.b, .int .i64 f] w fun e w' => e = .returned (.tuple #[]) ∧ VTurn E w A w' D (dropR R f) := by
  rcases hf with rfl | hf
  · exact h.drop_none
  · by_cases hv : val R f = 1
    · exact h.drop_last f hv
    · exact h.drop_more f (by have := h.val_pos hf; omega)

/-- What a new frame gets: the words of the one before, or none. -/
def firstW (D : Nat → Nat → Int) (f : Int) : Nat → Int := fun j => if f = -1 then 0 else D f.toNat j

set_option maxHeartbeats 2000000 in
theorem Vs.own_ok (h : Vs E w D R A) (f : Int) (hf : f = -1 ∨ 1 < val R f) :
    Calls Tryd.prog 110 #[vp E.b, .int .i64 f] w fun e w' => (num R E.n = E.n ∧ e = .returned (.tuple #[.int .i64 (-1), enr 12]) ∧ w' = w) ∨
      ∃ k : Nat, k < E.n ∧ R (k : Int) = none ∧ e = .returned (.tuple #[.int .i64 (k : Int), .nilIface]) ∧ VTurn E w A w' (row D k (firstW D f)) (putC (dropR R f) (k : Int) 1) := by
  obtain ⟨U, T, a, so⟩ := h.pool
  have hn := h.n256
  have hlft := left_num a.inv so
  have c0 := h.c0
  have c1 := h.c1
  have c2 := h.c2
  -- all that comes behind the pool's answer
  have hfin : ∀ (k : Nat) (w1 w2 w3 w4 : World) (A' : Nat → Prop) (U' : Nat → Bool) (s : Nat), k < E.n → R (k : Int) = none → At w1 E.bp E.n U' (fun z => if z = (k : Int) then some 0 else T z) 257 A' → Fr A w w1 → (∀ i, i < w.heap.size → A' i → A i) →
      Mem w2 E.bm E.sm E.n (row D k (firstW D f)) → w1.grownBy w2 (some E.sm) → w2.grownBy w3 (some E.g) → w3.grownBy w4 (some E.g) → PMap w4 E.g s (tm (putC (dropR R f) (k : Int) 1)) → VTurn E w A w4 (row D k (firstW D f)) (putC (dropR R f) (k : Int) 1) := by
    intro k w1 w2 w3 w4 A' U' s hk hRk a1 f1 sub m2 g2 g3 g4 pm
    have l1 : ∀ i, i < w.heap.size → i < w1.heap.size := fun i hi => Nat.lt_of_lt_of_le hi f1.size
    have l2 : ∀ i, i < w1.heap.size → i < w2.heap.size := fun i hi => Nat.lt_of_lt_of_le hi g2.size
    have l3 : ∀ i, i < w2.heap.size → i < w3.heap.size := fun i hi => Nat.lt_of_lt_of_le hi g3.size
    have k4 : ∀ i, i < w2.heap.size → i ≠ E.g → w4.heap[i]? = w2.heap[i]? := fun i hi hg => (g4.block i (l3 i hi) (fun e => hg (Option.some.inj e))).trans (g3.block i hi (fun e => hg (Option.some.inj e)))
    have k2 : ∀ i, i < w1.heap.size → i ≠ E.g → i ≠ E.sm → w4.heap[i]? = w1.heap[i]? := fun i hi hg hs => (k4 i (l2 i hi) hg).trans (g2.block i hi (fun e => hs (Option.some.inj e)))
    have hA' : ∀ i, A' i → i ≠ E.g ∧ i ≠ E.sm := fun i hi => ⟨fun e => h.offg (sub _ h.glt (e ▸ hi)), fun e => h.offs (sub _ h.slt (e ▸ hi))⟩
    have hsome : ∀ x, (dropR R f x).isSome = (R x).isSome := by
      rcases hf with rfl | hv
      · intro x; rw [dropR_neg (h.neg (by omega))]
      · exact dropR_some hv
    have hdk : dropR R f (k : Int) = none := by
      have := hsome k; rw [hRk] at this; cases e : dropR R f (k : Int) with
      | none => rfl
      | some v => rw [e] at this; cases this
    have hwi : Within (putC (dropR R f) (k : Int) 1) E.n := by
      refine Within.put (fun x hx => h.within x (by rw [← hsome]; exact hx)) (by omega) (by omega)
    refine ⟨A', ⟨?_, m2.keep (k4 _ (l2 _ (l1 _ h.mlt)) h.nmg) (k4 _ (l2 _ (l1 _ h.slt)) h.nsg), ⟨U', _, a1.shrink.keep' (fun i hi => k2 i (a1.lt' hi) (hA' i hi).1 (hA' i hi).2), fun x => ?_⟩, ?_, fun x v hx => ?_, fun ha => h.offb (sub _ h.blt ha), fun ha => h.offm (sub _ h.mlt ha), fun ha => h.offs (sub _ h.slt ha), fun ha => h.offg (sub _ h.glt ha), h.nbs, h.nbg, h.nmg, h.nsg, h.n1⟩, ?_, sub⟩
    · exact ((k2 _ (l1 _ h.blt) h.nbg h.nbs).trans (f1.block _ h.blt h.offb)).trans h.head
    · simp only [putC]; split
      · rfl
      · rw [so x]; have := hsome x
        cases e : dropR R f x <;> cases e' : R x <;> rw [e, e'] at this <;> first | rfl | cases this
    · rw [← pm.size_num hwi]; exact pm
    · unfold putC at hx; split at hx
      · cases hx; omega
      · rcases hf with rfl | hv
        · rw [dropR_neg (h.neg (by omega))] at hx; exact h.small x v hx
        · rw [dropR_more hv] at hx; unfold putC at hx; split at hx
          · cases hx; have := h.val_lt f; omega
          · exact h.small x v hx
    · exact (((f1.mono (fun i _ h => .inl h)).trans (Fr.grown g2) (fun i _ e => .inr (.inl e))).trans (Fr.grown g3) (fun i _ e => .inr (.inr e))).trans (Fr.grown g4) (fun i _ e => .inr (.inr e))
  have hbs : some E.b ≠ some E.g := fun e => h.nbg (Option.some.inj e)
  have hbm : some E.b ≠ some E.sm := fun e => h.nbs (Option.some.inj e)
  go_enter Tryd.func110, Tryd.ntmps110
  go_wp2_with fail
  refine (alloc0 a (by omega)).mono ?_
  rintro e w1 (⟨hcnt, rfl, hw⟩ | ⟨k, hk, hT, rfl, U', A', a1, f1, sub⟩)
  · subst w1
    clear hfin
    go_wp2_with fail
    go_ret2
    exact .inl ⟨by omega, rfl, rfl⟩
  · have hRk : R (k : Int) = none := by
      have := so k; rw [hT] at this; cases e : R (k : Int) with
      | none => rfl
      | some v => rw [e] at this; cases this
    have hb1 := f1.block _ h.blt h.offb
    have d0 : w1.cell? ⟨E.b, 0, none⟩ = some (mp E.bm) := by rw [World.cell?_of_block (w := w) (a := ⟨E.b, 0, none⟩) hb1]; exact c0
    have d2 : w1.cell? ⟨E.b, 2, none⟩ = some (.map (some E.g)) := by rw [World.cell?_of_block (w := w) (a := ⟨E.b, 2, none⟩) hb1]; exact c2
    have m1 := h.mem.keep (f1.block _ h.mlt h.offm) (f1.block _ h.slt h.offs)
    have pm1 := h.map.keep (f1.block _ h.glt h.offg)
    have hnsg := h.nsg
    have hgs : some E.g ≠ some E.sm := fun e => hnsg (Option.some.inj e).symm
    have hglt : E.g < w1.heap.size := pm1.lt
    have hnum := num_le R E.n
    have hmax : num R E.n < maxLen := by unfold maxLen; omega
    have hwfk : (Lit.int .i64 (k : Int)).wf = true := wf_small (by omega) (by omega)
    have hwin := h.within
    have hvl := h.val_lt f
    have hneg := h.neg (x := -1) (by omega)
    have hnbg := h.nbg
    have hput : ∀ (w3 w4 : World) (s : Nat), PMap w4 E.g s (fun i => if i = (k : Int) then some (.int .i64 1) else tm (dropR R f) i) → PMap w4 E.g s (tm (putC (dropR R f) (k : Int) 1)) := fun w3 w4 s pm => by
      rw [← tm_putC]; exact pm
    clear h a so hT hlft c0 c1 c2 hb1
    rcases hf with rfl | hv
    · have hZ := zero_ok m1 (k : Int) (by omega) (by omega)
      have e0 : firstW D (-1) = fun _ => 0 := by funext j; simp [firstW]
      have edr : dropR R (-1) = R := dropR_neg hneg
      go_wp2_with fail
      refine hZ.mono ?_
      rintro e w2 ⟨rfl, m2, _, g2⟩
      have d0' := g2.cell d0 hbm
      have d2' := g2.cell d2 hbm
      have pm2 := pm1.keep (g2.block _ hglt hgs)
      go_wp2_with (first
        | (go_at_call 131; refine (drop_nil _ _).mono ?_; rintro e w3 ⟨rfl, h3⟩; subst w3)
        | (at_mapUpdate; refine wpList_kput rfl _ _ _ 65 rfl 3 Tryd.underlying65 E.g _ _ rfl pm2 hmax (k : Int) rfl hwfk _ rfl ?_; intro w4 pm4 g4))
      go_ret2
      refine .inr ⟨k, hk, hRk, rfl, hfin k w1 w2 w2 w4 A' U' _ hk hRk a1 f1 sub (by rw [e0]; simpa using m2) g2 (World.grownBy.refl w2 _) g4 (hput w2 w4 _ (by rw [edr]; exact pm4))⟩
    · have hwf := hwin f (some_of_one (by omega))
      have hC := copy_ok m1 (k : Int) f (by omega) (by omega) hwf.1 hwf.2
      have hnf : ¬ f = -1 := by omega
      have e0 : firstW D f = D f.toNat := by funext j; simp [firstW, hnf]
      go_wp2_with fail
      refine hC.mono ?_
      rintro e w2 ⟨rfl, m2, _, g2⟩
      have d2' := g2.cell d2 hbm
      have pm2 := pm1.keep (g2.block _ hglt hgs)
      have hdr := drop_raw d2' pm2 hmax hnbg f hwf.1 (by omega) hv hvl
      go_wp2_with fail
      refine hdr.mono ?_
      rintro e w3 ⟨rfl, pm3, g3⟩
      have d3 := g3.cell d2' hbs
      go_wp2_with (at_mapUpdate; refine wpList_kput rfl _ _ _ 65 rfl 3 Tryd.underlying65 E.g _ _ rfl pm3 hmax (k : Int) rfl hwfk _ rfl ?_; intro w4 pm4 g4)
      go_ret2
      exact .inr ⟨k, hk, hRk, rfl, hfin k w1 w2 w3 w4 A' U' _ hk hRk a1 f1 sub (by rw [e0]; simpa using m2) g2 g3 g4 (hput w3 w4 _ pm4)⟩
end
end Go.Proofs.YtcllfedpdcjbcaaDoor

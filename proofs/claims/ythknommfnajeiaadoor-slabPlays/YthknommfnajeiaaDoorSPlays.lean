/- SlabPlays: the walk of its Go text. -/
import Derived.Test.YthknommfnajeiaaDoorState3
import Derived.BigQuiet
import Derived.Deep.QuietTactic
import Derived.Deep.LoopGhost
import Derived.Deep.DeepCutAuto
import Derived.Deep.Light
import Derived.Deep.RegionHeld3
import Derived.WalkSmall
namespace Go.Proofs.YthknommfnajeiaaDoor
open Go.RowKit Go.Shelf Go.Lib Go.Sort Go.Maps

/-- One item of the script. -/
structure Item where
  what : Int
  a : Int
  b : Int
  v : Int

/-- The items lie in the argument's array. -/
def Script (w : World) (ad : Option Addr) (len : Nat) (q : Nat → Item) : Prop :=
  len = 0 ∨ ∃ blk off, ad = some ⟨blk, off, none⟩ ∧ blk < w.heap.size ∧ ∀ i, i < len →
    w.cell? ⟨blk, off + i * 4, none⟩ = some (.int .i64 (q i).what) ∧ w.cell? ⟨blk, off + i * 4 + 1, none⟩ = some (.int .i64 (q i).a) ∧
    w.cell? ⟨blk, off + i * 4 + 2, none⟩ = some (.int .i64 (q i).b) ∧ w.cell? ⟨blk, off + i * 4 + 3, none⟩ = some (.int .i64 (q i).v) ∧ (Lit.int .i64 (q i).a).wf = true

theorem six (W : Int) : (IntKind.u64.wrap W).tmod 6 = 0 ∨ (IntKind.u64.wrap W).tmod 6 = 1 ∨ (IntKind.u64.wrap W).tmod 6 = 2 ∨ (IntKind.u64.wrap W).tmod 6 = 3 ∨ (IntKind.u64.wrap W).tmod 6 = 4 ∨ (IntKind.u64.wrap W).tmod 6 = 5 := by
  have h0 : 0 ≤ IntKind.u64.wrap W := by rw [IntKind.wrap_u64]; omega
  rw [Int.tmod_eq_emod_of_nonneg h0]; omega

set_option maxRecDepth 100000 in
set_option maxHeartbeats 1000000 in
theorem splays_bad (n per : Int) (ad : Option Addr) (len cap : Nat) (w : World) (hn : ¬ (1 ≤ n ∧ n ≤ 256)) :
    Calls Tryd.prog 7 #[.int .i64 n, .int .i64 per, .slice ad len cap] w fun e w' => e = .returned (.bool true) ∧ Below w.heap.size w w' := by
  go_enter Tryd.func7, Tryd.ntmps7
  go_wp2_with fail
  refine (pool_no _ n hn).mono ?_
  rintro e w' ⟨rfl, rfl⟩
  go_wp2_with fail
  go_ret
  exact ⟨rfl, Below.refl _ _⟩

set_option maxRecDepth 100000 in
set_option maxHeartbeats 1000000 in
theorem splays_long (n : Nat) (per : Int) (ad : Option Addr) (len cap : Nat) (w : World) (h1 : 1 ≤ n) (h2 : n ≤ 256) (hl : 60 < len) :
    Calls Tryd.prog 7 #[.int .i64 n, .int .i64 per, .slice ad len cap] w fun e w' => e = .returned (.bool true) ∧ Below w.heap.size w w' := by
  have h3 : (60 : Int) < (len : Int) := by omega
  go_enter Tryd.func7, Tryd.ntmps7
  go_wp2_with fail
  refine (pool_ok _ n h1 h2).mono ?_
  rintro e w1 ⟨b, rfl, A, a1, f1, o1⟩
  go_wp2_with fail
  go_ret
  exact ⟨rfl, ⟨f1.os, f1.tape, f1.output, f1.size, fun i hi => f1.block i hi (fun h => h)⟩⟩

set_option maxRecDepth 100000 in
set_option maxHeartbeats 2000000 in
theorem splays_per (n : Nat) (per : Int) (ad : Option Addr) (len cap : Nat) (w : World) (h1 : 1 ≤ n) (h2 : n ≤ 256) (hl : len ≤ 60) (hp : per < 1 ∨ 16 < per) (hg : w.cell? ⟨0, 0, none⟩ = some errT) :
    Calls Tryd.prog 7 #[.int .i64 n, .int .i64 per, .slice ad len cap] w fun e w' => e = .returned (.bool true) ∧ Below w.heap.size w w' := by
  have h3 : ¬ (60 : Int) < (len : Int) := by omega
  have hgl : 0 < w.heap.size := World.block_lt_of_cell? w _ hg
  by_cases hp1 : per < 1
  all_goals
    have hp2 : per < 1 ∨ 16 < per := hp
    have hp3 : ¬ per < 1 → 16 < per := fun h => hp.resolve_left h
    first
      | (have hp4 := hp3 hp1)
      | skip
    clear hp3 hp
    go_enter Tryd.func7, Tryd.ntmps7
    go_wp2_with fail
    refine (pool_ok _ n h1 h2).mono ?_
    rintro e w1 ⟨b, rfl, A, a1, f1, o1⟩
    have b1 : Below w.heap.size w w1 := ⟨f1.os, f1.tape, f1.output, f1.size, fun i hi => f1.block i hi (fun h => h)⟩
    go_wp2_with fail
    refine (cache_nil _ per).mono ?_
    rintro e w2 ⟨rfl, e2⟩
    subst w2
    go_wp2_with fail
    refine (cache_no _ b per hp2).mono ?_
    rintro e w2 ⟨rfl, e2⟩
    subst w2
    go_wp2_with fail
    refine (bare_eno 7 _ (by rw [b1.cell (p := ⟨0, 0, none⟩) hgl]; exact hg)).mono ?_
    rintro e w3 ⟨rfl, l3⟩
    have b3 := b1.trans (l3.mono b1.size)
    go_wp2_with fail
    refine (bare_eno 2 _ (by rw [b3.cell (p := ⟨0, 0, none⟩) hgl]; exact hg)).mono ?_
    rintro e w4 ⟨rfl, l4⟩
    go_wp2_with fail
    go_ret
    exact ⟨rfl, b3.trans (l4.mono b3.size)⟩

/-- The document's new cache, beside the program's. -/
theorem bb_new {w w2 w4 : World} {c b g n per r f gr : Nat} {A : Nat → Prop} {U : Nat → Bool} {T : Int → Option Nat} (ca : CA w2 c b per g n (fun _ => none) U T 0 A) (bel : Below w.heap.size w w2) (offA : ∀ i, i < w.heap.size → ¬ A i) (offg : w.heap.size ≤ g)
    (R : RAt w4 r f gr n U T 0) (f2 : Fr (fun _ => False) w2 w4) (lr : w2.heap.size ≤ r) (lf : w2.heap.size ≤ f) (lg : w2.heap.size ≤ gr) :
    BB ⟨w, c, b, g, n, per, w4.heap.size + 1, r, f, gr, w4.heap.size⟩ ((w4.alloc (.map #[] 0)).alloc (.cells #[pp r, .int .i64 (per : Int), .map (some w4.heap.size), .slice none 0 0] 73)) A (.slice none 0 0) [] (fun _ => none) U T 0 (fun _ => none) U T 0 := by
  have hs := f2.size
  have b24 : Below w2.heap.size w2 ((w4.alloc (.map #[] 0)).alloc (.cells #[pp r, .int .i64 (per : Int), .map (some w4.heap.size), .slice none 0 0] 73)) := (show Below w2.heap.size w2 w4 from ⟨f2.os, f2.tape, f2.output, f2.size, fun i hi => f2.block i hi (fun h => h)⟩).alloc hs _ |>.alloc (by simp; omega) _
  have hrl : ∀ i, rown r f gr i → i < w4.heap.size := fun i hi => R.lt hi
  have hrg : ∀ i, rown r f gr i → w2.heap.size ≤ i := by rintro i (rfl | rfl | rfl) <;> assumption
  have hth : th per (fun _ => none) = fun _ => none := by funext k; simp [th, isT, val]
  have ht0 : tot (fun _ => none) n = 0 := sumTo_zero _ _ (fun _ _ _ => ones_zero)
  have hA2 : ∀ i, A i → i < w2.heap.size := fun i hi => ca.pool.lt' hi
  refine ⟨ca.below b24, ⟨?_, ?_, World.ownsRow_nil _ _ _ _, ?_, ⟨List.Pairwise.nil, fun x => by simp⟩, ca.inv, fun x hx => (by cases hx), ca.per1, ca.per16, ca.most, fun h => ?_, fun h => ?_, fun i hi => (by cases hi)⟩, bel.trans (b24.mono bel.size), fun i hi => ?_, offA, offg, fun i hi hr => ?_⟩
  · show ((w4.heap.push _).push _)[w4.heap.size + 1]? = _
    rw [Array.getElem?_push, if_pos (by simp)]
  · show PMap _ w4.heap.size (tot (fun _ => none) n) (th per (fun _ => none))
    rw [ht0, hth]; exact (PMap.made w4).keep (Below.heap_alloc _ _ _ (by simp))
  · exact R.keep (fun i hi => by rw [Below.heap_alloc _ _ _ (by have := hrl i hi; simp; omega), Below.heap_alloc _ _ _ (hrl i hi)])
  · have : w4.heap.size + 1 < w4.heap.size := hrl _ h
    omega
  · have : w4.heap.size < w4.heap.size := hrl _ h
    omega
  · have hi2 : w2.heap.size ≤ i := by
      rcases hi with e | e | e | e
      · have e' : i = w4.heap.size + 1 := e
        omega
      · exact hrg i e
      · have e' : i = w4.heap.size := e
        omega
      · cases e
    have hcl := ca.ch.lt
    have hgl := ca.ch.mlt
    exact ⟨fun h => by have := hA2 i h; omega, fun e => by have e' : i = c := e; omega, fun e => by have e' : i = g := e; omega⟩
  · have hi' : i < w.heap.size := hi
    have hs2 := bel.size
    rcases hr with e | e | e | e
    · have e' : i = w4.heap.size + 1 := e
      omega
    · have := hrg i e; omega
    · have e' : i = w4.heap.size := e
      omega
    · cases e
end Go.Proofs.YthknommfnajeiaaDoor

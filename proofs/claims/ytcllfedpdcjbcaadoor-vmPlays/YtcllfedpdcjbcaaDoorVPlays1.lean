/- VmPlays: how it begins. -/
import Derived.Test.YtcllfedpdcjbcaaDoorVPair
import Derived.Test.YtcllfedpdcjbcaaDoorErrV
import Derived.BigQuiet
import Derived.Deep.QuietTactic
import Derived.Deep.LoopGhost
import Derived.Deep.DeepCutAuto
import Derived.Deep.Light
import Derived.Deep.RegionHeld3
import Derived.WalkSmall
import Derived.Deep.CutBlock
namespace Go.Proofs.YtcllfedpdcjbcaaDoor
open Go.RowKit Go.Shelf Go.Lib Go.Sort Go.Maps

/-- One item of the script. -/
structure VItem where
  what : Int
  space : Int
  at_ : Int
  n : Int
  prot : Int
  v : Int
def VItem.ok (x : VItem) : Prop := (Lit.int .i64 x.at_).wf = true ∧ (Lit.int .i64 x.n).wf = true
/-- The items lie in the argument's array. -/
def VScript (w : World) (ad : Option Addr) (len : Nat) (q : Nat → VItem) : Prop :=
  len = 0 ∨ ∃ blk off, ad = some ⟨blk, off, none⟩ ∧ blk < w.heap.size ∧ ∀ i, i < len →
    w.cell? ⟨blk, off + i * 6, none⟩ = some (.int .i64 (q i).what) ∧ w.cell? ⟨blk, off + i * 6 + 1, none⟩ = some (.int .i64 (q i).space) ∧ w.cell? ⟨blk, off + i * 6 + 2, none⟩ = some (.int .i64 (q i).at_) ∧
    w.cell? ⟨blk, off + i * 6 + 3, none⟩ = some (.int .i64 (q i).n) ∧ w.cell? ⟨blk, off + i * 6 + 4, none⟩ = some (.int .i64 (q i).prot) ∧ w.cell? ⟨blk, off + i * 6 + 5, none⟩ = some (.int .i64 (q i).v) ∧ (q i).ok

/-- Both sides at the beginning: one space each, without pages. -/
theorem bs_new {w0 w3 w4 : World} {E : St} {A : Nat → Prop} {c gc rm gR : Nat} (v3 : VS E w3 c gc (fun _ _ => 0) A (fun _ => none) (fun _ => 0)) (hB3 : Below w0.heap.size w0 w3) (o3 : ∀ i, i < w0.heap.size → ¬ vown E A i) (lg : w0.heap.size ≤ gc) (m4 : RM w4 rm gR E.n 0 (fun _ => none) 0) (b4 : Below w3.heap.size w3 w4) (lrm : w3.heap.size ≤ rm) (lgR : w3.heap.size ≤ gR) :
    BS (fun _ => False) w0 E (((w4.alloc (.cells #[vp c] 107)).alloc (.map #[] 0)).alloc (.cells #[.map (some (w4.heap.size + 1))] 114)) A (fun _ _ => 0) [(c, gc, fun _ => none)] rm gR 0 (fun _ _ => 0) [(0, w4.heap.size + 1, fun _ => none)] (fun _ => 0) (.slice (some ⟨w4.heap.size, 0, none⟩) 1 1) (.slice (some ⟨w4.heap.size + 2, 0, none⟩) 1 1) [c] [w4.heap.size + 1] := by
  obtain ⟨W, hW⟩ : ∃ W, ((w4.alloc (.cells #[vp c] 107)).alloc (.map #[] 0)).alloc (.cells #[.map (some (w4.heap.size + 1))] 114) = W := ⟨_, rfl⟩
  have e0 : W.heap[w4.heap.size]? = some (.cells #[vp c] 107) := by
    rw [← hW]
    show (((w4.heap.push _).push _).push _)[w4.heap.size]? = _
    rw [Array.getElem?_push, if_neg (by simp <;> omega), Array.getElem?_push, if_neg (by simp), Array.getElem?_push, if_pos rfl]
  have e1 : W.heap[w4.heap.size + 1]? = some (.map #[] 0) := by
    rw [← hW]
    show (((w4.heap.push _).push _).push _)[w4.heap.size + 1]? = _
    rw [Array.getElem?_push, if_neg (by simp), Array.getElem?_push, if_pos (by simp)]
  have e2 : W.heap[w4.heap.size + 2]? = some (.cells #[.map (some (w4.heap.size + 1))] 114) := by
    rw [← hW]
    show (((w4.heap.push _).push _).push _)[w4.heap.size + 2]? = _
    rw [Array.getElem?_push, if_pos (by simp)]
  have bW : Below w4.heap.size w4 W := by rw [← hW]; exact (((Below.refl _ w4).alloc (Nat.le_refl _) _).alloc (by simp) _).alloc (by simp <;> omega) _
  have hsz : W.heap.size = w4.heap.size + 3 := by rw [← hW]; simp
  rw [hW]
  clear hW
  have s3 := hB3.size
  have s4 := b4.size
  have b3W : Below w3.heap.size w3 W := b4.trans (bW.mono s4)
  have a3 := Al.first v3
  have aW := a3.below b3W
  have mW := m4.below bW
  have lr := m4.lt
  have lR := m4.glt
  have n256 := a3.st.n256
  have t0 : ∀ f, 0 ≤ f → totS [((0 : Nat), w4.heap.size + 1, fun _ => none)] f = 0 := fun f hf => by simp [totS, sh_empty hf]
  have hrel : Rel E.n 0 (totS [((0 : Nat), w4.heap.size + 1, fun _ => none)]) (fun _ => 0) (fun _ => none) 0 :=
    ⟨fun f hf h => absurd (t0 f hf) h, fun x k h => (by cases h), fun f g hf _ h => absurd (t0 f hf) h, fun f hf h => absurd (t0 f hf) h, by rw [used_congr t0, used_zero]⟩
  have hpm : PMap W (w4.heap.size + 1) (lenP fun _ => none) (rpv (fun _ => none) (fun _ _ => 0) fun _ => 0) := by
    rw [lenP_none]
    have e : rpv (fun _ => none) (fun _ _ => 0) (fun _ => 0) = fun _ => none := rfl
    rw [e]
    have := PMap.made (w4.alloc (.cells #[vp c] 107))
    rw [World.size_alloc] at this
    refine this.keep (e1.trans ?_)
    have h9 := heap_new (w4.alloc (.cells #[vp c] 107)) (.map #[] 0)
    rw [World.size_alloc] at h9
    exact h9.symm
  have ha : ∀ i, aown E A [(c, gc, fun _ => none)] i → i < w3.heap.size ∧ w0.heap.size ≤ i := fun i hi => ⟨a3.olt hi, by
    rcases hi with hi | ⟨x, hx, rfl⟩
    · apply Classical.byContradiction; intro hn; exact o3 i (by omega) hi
    · simp at hx; subst hx; exact lg⟩
  have hd : ∀ i, down rm gR [((0 : Nat), w4.heap.size + 1, (fun _ => none : PM))] i → w3.heap.size ≤ i ∧ i ≠ w4.heap.size ∧ i ≠ w4.heap.size + 2 := fun i hi => by
    rcases hi with hi | hi | ⟨x, hx, rfl⟩
    · omega
    · omega
    · simp at hx; subst hx; simp only; omega
  refine ⟨⟨aW, ⟨fun i hi => ?_, fun i j hi hj _ => by simp at hi hj; omega, by simp⟩, fun i hi => ?_, fun i hi => ?_⟩, hB3.trans (b3W.mono s3), ⟨rfl, .inr ⟨w4.heap.size, 1, #[vp c], rfl, by omega, e0, Nat.le_refl _, by decide, rfl, rfl⟩⟩, ⟨rfl, .inr ⟨w4.heap.size + 2, 1, #[.map (some (w4.heap.size + 1))], rfl, by omega, e2, Nat.le_refl _, by decide, rfl, rfl⟩⟩⟩
  · have : i = 0 := by simp at hi; omega
    subst this
    exact ⟨⟨_, _, mW, hrel⟩, hpm, PgOk.none _, fun f hf => by show sh (fun _ => none) f ≤ _; rw [sh_empty hf]; omega, by show w4.heap.size + 1 ≠ gR; omega, by show w4.heap.size + 1 ≠ rm; omega, n256, by omega⟩
  · have h1 := hd i hi
    have st := a3.st
    refine ⟨fun ho => by have := (ha i ho).1; omega, fun e => by have := st.blt; omega, fun e => by have := st.mlt; omega, fun x hx e => ?_⟩
    simp at hx; subst hx
    have := v3.sp.lt; simp only at e; omega
  · rcases hi with hi | hi | hi | hi
    · refine ⟨by omega, fun ho => by have := (ha i ho).2; omega, fun h => by have := (hd i h).1; omega⟩
    · have hi' : w4.heap.size = i := Option.some.inj hi
      refine ⟨by omega, fun ho => by have := (ha _ ho).1; omega, fun h => (hd _ h).2.1 hi'.symm⟩
    · have hi' : w4.heap.size + 2 = i := Option.some.inj hi
      refine ⟨by omega, fun ho => by have := (ha _ ho).1; omega, fun h => (hd _ h).2.2 hi'.symm⟩
    · exact hi.elim

set_option maxRecDepth 100000 in
set_option maxHeartbeats 2000000 in
theorem vplays_range (n : Int) (ad : Option Addr) (len cap : Nat) (w : World) (h : ¬ (1 ≤ n ∧ n ≤ 256)) (hg : w.cell? ⟨1, 0, none⟩ = some errT) :
    Calls Tryd.prog 11 #[.int .i64 n, .slice ad len cap] w fun e w' => e = .returned (.bool true) ∧ Below w.heap.size w w' := by
  have hN := newStore_no w n h
  have hb := bare_eno 2 w hg
  by_cases h1 : n < 1
  · clear h
    go_enter Tryd.func11, Tryd.ntmps11
    go_wp2_with fail
    refine hN.mono ?_
    rintro e w1 ⟨rfl, hw⟩
    subst w1
    go_wp2_with fail
    refine hb.mono ?_
    rintro e w1 ⟨rfl, b1⟩
    go_wp2_with fail
    go_ret
    exact ⟨rfl, b1⟩
  · have h2 : 256 < n := by omega
    clear h
    go_enter Tryd.func11, Tryd.ntmps11
    go_wp2_with fail
    refine hN.mono ?_
    rintro e w1 ⟨rfl, hw⟩
    subst w1
    go_wp2_with fail
    refine hb.mono ?_
    rintro e w1 ⟨rfl, b1⟩
    go_wp2_with fail
    go_ret
    exact ⟨rfl, b1⟩

set_option maxRecDepth 100000 in
set_option maxHeartbeats 2000000 in
theorem vplays_long (n : Nat) (ad : Option Addr) (len cap : Nat) (w : World) (h1 : 1 ≤ n) (h2 : n ≤ 256) (hl : 60 < len) :
    Calls Tryd.prog 11 #[.int .i64 (n : Int), .slice ad len cap] w fun e w' => e = .returned (.bool true) ∧ Below w.heap.size w w' := by
  have hN := newStore_ok w n h1 h2
  have h1' : ¬ (n : Int) < 1 := by omega
  have h2' : ¬ (256 : Int) < (n : Int) := by omega
  have hl' : (60 : Int) < (len : Int) := by omega
  go_enter Tryd.func11, Tryd.ntmps11
  go_wp2_with fail
  refine hN.mono ?_
  rintro e w1 ⟨b, rfl, E, A0, rfl, hEn, v2, b2, o2, lb⟩
  clear hN v2 o2
  go_wp2_with fail
  refine (newSpace_nil _).mono ?_
  rintro e w2 ⟨rfl, hw⟩
  subst w2
  go_wp2_with fail
  go_ret
  exact ⟨rfl, b2⟩
end Go.Proofs.YtcllfedpdcjbcaaDoor

namespace Go.Proofs.YtcllfedpdcjbcaaDoor
open Go.RowKit Go.Shelf Go.Lib Go.Sort Go.Maps

theorem set_heads {L : List Sq} {k : Nat} (hk : k < L.length) (P : PM) : (L.set k (L[k].1, L[k].2.1, P)).map (·.1) = L.map (·.1) := by
  rw [List.map_set]
  have : (L.map (·.1)).set k L[k].1 = (L.map (·.1)).set k ((L.map (·.1))[k]'(by simpa using hk)) := by simp
  rw [this, List.set_getElem_self]
theorem set_maps {L : List Sq} {k : Nat} (hk : k < L.length) (P : PM) : (L.set k (L[k].1, L[k].2.1, P)).map (·.2.1) = L.map (·.2.1) := by
  rw [List.map_set]
  have : (L.map (·.2.1)).set k L[k].2.1 = (L.map (·.2.1)).set k ((L.map (·.2.1))[k]'(by simpa using hk)) := by simp
  rw [this, List.set_getElem_self]

/-- A number by a name. -/
theorem vnamed (x : Nat) : ∃ y, x = y := ⟨x, rfl⟩
theorem new_val (w : World) (u : Value) (T : TypeId) : ∀ j z, ([u] : List Value)[j]? = some z → (w.alloc (.cells #[u] T)).cell? ((⟨w.heap.size, 0, none⟩ : Addr).add j) = some z := by
  intro j z hz
  match j, hz with
  | 0, hz => cases hz; simp [Addr.add]
  | j + 1, hz => simp at hz

/-- What stands behind an item: both sides alike; the space that it asked. -/
def VV (x : Nat) (xs : Array Value) (w0 : World) (E : St) (w : World) (rm gR : Nat) (v1 v2 : Value) (m c1 c2 j : Nat) : Prop :=
  ∃ (A : Nat → Prop) (D : Nat → Nat → Int) (L : List Sq) (nx : Nat) (M : List Sq) (φ : Int → Int), L.length ≤ 5 ∧ nx ≤ j ∧ Same L M ∧ (∃ (h : m < L.length) (h' : m < M.length), L[m].1 = c1 ∧ M[m].2.1 = c2) ∧ BI x xs w0 E w A D L rm gR nx D M φ v1 v2 (L.map (·.1)) (M.map (·.2.1))

theorem VV.stay {x : Nat} {xs : Array Value} {w0 : World} {E : St} {w w' : World} {rm gR : Nat} {v1 v2 : Value} {m c1 c2 j : Nat} (h : VV x xs w0 E w rm gR v1 v2 m c1 c2 j) (hb : Below w.heap.size w w') : VV x xs w0 E w' rm gR v1 v2 m c1 c2 j := by
  obtain ⟨A, D, L, nx, M, φ, h1, h2, h3, h4, h5⟩ := h
  exact ⟨A, D, L, nx, M, φ, h1, h2, h3, h4, h5.stay hb⟩
theorem VV.cell {x : Nat} {xs : Array Value} {w0 : World} {E : St} {w : World} {rm gR : Nat} {v1 v2 : Value} {m c1 c2 j : Nat} (h : VV x xs w0 E w rm gR v1 v2 m c1 c2 j) (i : Nat) : w.cell? ⟨x, i, none⟩ = xs[i]? := by
  obtain ⟨A, D, L, nx, M, φ, h1, h2, h3, h4, h5⟩ := h
  exact h5.cell i
theorem wf_most {n : Int} (h : (Lit.int .i64 n).wf = true) : n ≤ 9223372036854775807 := by
  have b : IntKind.max .i64 = 9223372036854775807 := rfl
  simp only [Lit.wf, b, Bool.and_eq_true, decide_eq_true_eq] at h; omega
theorem VV.more {x : Nat} {xs : Array Value} {w0 : World} {E : St} {w : World} {rm gR : Nat} {v1 v2 : Value} {m c1 c2 j j' : Nat} (h : VV x xs w0 E w rm gR v1 v2 m c1 c2 j) (hj : j ≤ j') : VV x xs w0 E w rm gR v1 v2 m c1 c2 j' := by
  obtain ⟨A, D, L, nx, M, φ, h1, h2, h3, h4, h5⟩ := h
  exact ⟨A, D, L, nx, M, φ, h1, by omega, h3, h4, h5⟩
theorem VV.bel {x : Nat} {xs : Array Value} {w0 : World} {E : St} {w : World} {rm gR : Nat} {v1 v2 : Value} {m c1 c2 j : Nat} (h : VV x xs w0 E w rm gR v1 v2 m c1 c2 j) : Below w0.heap.size w0 w := by
  obtain ⟨A, D, L, nx, M, φ, h1, h2, h3, h4, h5⟩ := h
  exact h5.s.bel

section
variable {x : Nat} {xs : Array Value} {w0 : World} {E : St} {w w' : World} {A : Nat → Prop} {D : Nat → Nat → Int} {L : List Sq} {rm gR nx : Nat} {M : List Sq} {φ : Int → Int} {v1 v2 : Value} {m c1 c2 j : Nat}

/-- Both sides' spaces turned alike. -/
theorem VV.of_set {D' : Nat → Nat → Int} {P' : PM} (hS : Same L M) (hL : L.length ≤ 5) (hnx : nx ≤ j) (hmL : m < L.length) (hmM : m < M.length) (e1 : L[m].1 = c1) (e2 : M[m].2.1 = c2)
    (h : BI x xs w0 E w A D' (L.set m (L[m].1, L[m].2.1, P')) rm gR nx D' (M.set m (M[m].1, M[m].2.1, P')) φ v1 v2 (L.map (·.1)) (M.map (·.2.1))) : VV x xs w0 E w rm gR v1 v2 m c1 c2 j := by
  refine ⟨A, D', L.set m (L[m].1, L[m].2.1, P'), nx, M.set m (M[m].1, M[m].2.1, P'), φ, by rw [List.length_set]; exact hL, hnx, hS.set m rfl, ⟨by rw [List.length_set]; exact hmL, by rw [List.length_set]; exact hmM, by simpa using e1, by simpa using e2⟩, ?_⟩
  rw [set_heads hmL, set_maps hmM]; exact h

/-- Both sides, beside each other, in one world: Map. -/
theorem map_pair (hS : Same L M) (hmL : m < L.length) (hmM : m < M.length) (e1 : L[m].1 = c1) (e2 : M[m].2.1 = c2) (X Y Z : Int) (hY : Y ≤ 9223372036854775807) (hL : L.length ≤ 5) (hnx : nx ≤ j) : ∃ c, (∀ (V : World) (A0 : Nat → Prop), BI x xs w0 E V A0 D L rm gR nx D M φ v1 v2 (L.map (·.1)) (M.map (·.2.1)) → Calls Tryd.prog 60 #[vp c1, .int .i64 X, .int .i64 Y, .int .i64 Z] V fun e w' => e = .returned (errV c) ∧ ∃ A', BI x xs w0 E w' A' D (L.set m (L[m].1, L[m].2.1, mapP L[m].2.2 X Y Z)) rm gR nx D M φ v1 v2 (L.map (·.1)) (M.map (·.2.1))) ∧
    (∀ (V : World) (A0 : Nat → Prop), BI x xs w0 E V A0 D (L.set m (L[m].1, L[m].2.1, mapP L[m].2.2 X Y Z)) rm gR nx D M φ v1 v2 (L.map (·.1)) (M.map (·.2.1)) → Calls Tryd.prog 61 #[.map (some c2), vp rm, .int .i64 0, .int .i64 X, .int .i64 Y, .int .i64 Z] V fun e w' => e = .returned (.int .i64 c) ∧ VV x xs w0 E w' rm gR v1 v2 m c1 c2 j) := by
  subst e1 e2
  refine ⟨mapE L[m].2.2 X Y Z, fun V A0 S => ?_, fun V A0 S => ?_⟩
  · have := S.map_A hmL X Y Z hY; exact this
  · have h := S.map_D hmM X Y Z
    rw [← hS.at hmL hmM] at h
    refine h.mono ?_
    rintro e w' ⟨he, S'⟩
    exact ⟨he, VV.of_set hS hL hnx hmL hmM rfl rfl S'⟩
theorem protect_pair (hS : Same L M) (hmL : m < L.length) (hmM : m < M.length) (e1 : L[m].1 = c1) (e2 : M[m].2.1 = c2) (X Y Z : Int) (hY : Y ≤ 9223372036854775807) (hL : L.length ≤ 5) (hnx : nx ≤ j) : ∃ c, (∀ (V : World) (A0 : Nat → Prop), BI x xs w0 E V A0 D L rm gR nx D M φ v1 v2 (L.map (·.1)) (M.map (·.2.1)) → Calls Tryd.prog 63 #[vp c1, .int .i64 X, .int .i64 Y, .int .i64 Z] V fun e w' => e = .returned (errV c) ∧ ∃ A', BI x xs w0 E w' A' D (L.set m (L[m].1, L[m].2.1, proP L[m].2.2 X Y Z)) rm gR nx D M φ v1 v2 (L.map (·.1)) (M.map (·.2.1))) ∧
    (∀ (V : World) (A0 : Nat → Prop), BI x xs w0 E V A0 D (L.set m (L[m].1, L[m].2.1, proP L[m].2.2 X Y Z)) rm gR nx D M φ v1 v2 (L.map (·.1)) (M.map (·.2.1)) → Calls Tryd.prog 61 #[.map (some c2), vp rm, .int .i64 2, .int .i64 X, .int .i64 Y, .int .i64 Z] V fun e w' => e = .returned (.int .i64 c) ∧ VV x xs w0 E w' rm gR v1 v2 m c1 c2 j) := by
  subst e1 e2
  refine ⟨proE L[m].2.2 X Y Z, fun V A0 S => ?_, fun V A0 S => ?_⟩
  · have := S.protect_A hmL X Y Z hY; exact this
  · have h := S.protect_D hmM X Y Z
    rw [← hS.at hmL hmM] at h
    refine h.mono ?_
    rintro e w' ⟨he, S'⟩
    exact ⟨he, VV.of_set hS hL hnx hmL hmM rfl rfl S'⟩
theorem unmap_pair (hS : Same L M) (hmL : m < L.length) (hmM : m < M.length) (e1 : L[m].1 = c1) (e2 : M[m].2.1 = c2) (X Y : Int) (hY : Y ≤ 9223372036854775807) (hL : L.length ≤ 5) (hnx : nx ≤ j) : ∃ c, (∀ (V : World) (A0 : Nat → Prop), BI x xs w0 E V A0 D L rm gR nx D M φ v1 v2 (L.map (·.1)) (M.map (·.2.1)) → Calls Tryd.prog 62 #[vp c1, .int .i64 X, .int .i64 Y] V fun e w' => e = .returned (errV c) ∧ ∃ A', BI x xs w0 E w' A' D (L.set m (L[m].1, L[m].2.1, unP L[m].2.2 X Y)) rm gR nx D M φ v1 v2 (L.map (·.1)) (M.map (·.2.1))) ∧
    (∀ (V : World) (A0 : Nat → Prop), BI x xs w0 E V A0 D (L.set m (L[m].1, L[m].2.1, unP L[m].2.2 X Y)) rm gR nx D M φ v1 v2 (L.map (·.1)) (M.map (·.2.1)) → Calls Tryd.prog 61 #[.map (some c2), vp rm, .int .i64 1, .int .i64 X, .int .i64 Y, .int .i64 0] V fun e w' => e = .returned (.int .i64 c) ∧ VV x xs w0 E w' rm gR v1 v2 m c1 c2 j) := by
  subst e1 e2
  refine ⟨unE L[m].2.2 X Y, fun V A0 S => ?_, fun V A0 S => ?_⟩
  · have := S.unmap_A hmL X Y hY; exact this
  · have h := S.unmap_D hmM X Y
    rw [← hS.at hmL hmM] at h
    refine h.mono ?_
    rintro e w' ⟨he, S'⟩
    exact ⟨he, VV.of_set hS hL hnx hmL hmM rfl rfl S'⟩
theorem clear_pair (hS : Same L M) (hmL : m < L.length) (hmM : m < M.length) (e1 : L[m].1 = c1) (e2 : M[m].2.1 = c2) (hL : L.length ≤ 5) (hnx : nx ≤ j) : (∀ (V : World) (A0 : Nat → Prop), BI x xs w0 E V A0 D L rm gR nx D M φ v1 v2 (L.map (·.1)) (M.map (·.2.1)) → Calls Tryd.prog 70 #[vp c1] V fun e w' => e = .returned (.tuple #[]) ∧ ∃ A', BI x xs w0 E w' A' D (L.set m (L[m].1, L[m].2.1, fun _ => none)) rm gR nx D M φ v1 v2 (L.map (·.1)) (M.map (·.2.1))) ∧
    (∀ (V : World) (A0 : Nat → Prop), BI x xs w0 E V A0 D (L.set m (L[m].1, L[m].2.1, fun _ => none)) rm gR nx D M φ v1 v2 (L.map (·.1)) (M.map (·.2.1)) → Calls Tryd.prog 71 #[.map (some c2), vp rm] V fun e w' => e = .returned (.tuple #[]) ∧ VV x xs w0 E w' rm gR v1 v2 m c1 c2 j) := by
  subst e1 e2
  refine ⟨fun V A0 S => ?_, fun V A0 S => ?_⟩
  · have := S.clear_A hmL; exact this
  · have h := S.clear_D hmM
    refine h.mono ?_
    rintro e w' ⟨he, S'⟩
    exact ⟨he, VV.of_set hS hL hnx hmL hmM rfl rfl S'⟩
/-- Store: what the program makes, the document makes, too. -/
theorem store_pair (hS : Same L M) (hmL : m < L.length) (hmM : m < M.length) (e1 : L[m].1 = c1) (e2 : M[m].2.1 = c2) (X Y Z : Int) (hX : (Lit.int .i64 X).wf = true) (hL : L.length ≤ 5) (hnx : nx ≤ j) (hj : j < 900) : (∀ (V : World) (A0 : Nat → Prop), BI x xs w0 E V A0 D L rm gR nx D M φ v1 v2 (L.map (·.1)) (M.map (·.2.1)) → Calls Tryd.prog 66 #[vp c1, .int .i64 X, .int .i64 Y, .int .i64 Z] V fun e w' => ∃ c, e = .returned (errV c) ∧ ∃ P' D' A', StR E.n L[m].2.2 (oth L m hmL) D X Y Z c P' D' ∧ BI x xs w0 E w' A' D' (L.set m (L[m].1, L[m].2.1, P')) rm gR nx D M φ v1 v2 (L.map (·.1)) (M.map (·.2.1))) ∧
    (∀ (V : World) (A0 : Nat → Prop) (P' : PM) (D' : Nat → Nat → Int) (c : Int), StR E.n L[m].2.2 (oth L m hmL) D X Y Z c P' D' → BI x xs w0 E V A0 D' (L.set m (L[m].1, L[m].2.1, P')) rm gR nx D M φ v1 v2 (L.map (·.1)) (M.map (·.2.1)) → Calls Tryd.prog 67 #[.map (some c2), vp rm, .int .i64 X, .int .i64 Y, .int .i64 Z] V fun e w' => e = .returned (.int .i64 c) ∧ VV x xs w0 E w' rm gR v1 v2 m c1 c2 (j + 1)) := by
  subst e1 e2
  refine ⟨fun V A0 S => ?_, fun V A0 P' D' c hst S => ?_⟩
  · have h := S.store_A hmL X Y Z hX
    refine h.mono ?_
    rintro e w' ⟨er, P', D', hst, he, A', S'⟩
    exact ⟨er, he, P', D', A', hst, S'⟩
  · have hst' : StR E.n M[m].2.2 (oth M m hmM) D X Y Z c P' D' := by rw [← hS.oth hmL hmM, ← hS.at hmL hmM]; exact hst
    have h := S.store_D hmM X Y Z hX (by omega) hst'
    refine h.mono ?_
    rintro e w' ⟨he, nx', φ', hn', S'⟩
    exact ⟨he, VV.of_set hS hL (by omega) hmL hmM rfl rfl S'⟩

theorem BI.push1 {L : List Sq} {D2 : Nat → Nat → Int} {cs ds : List Nat} {v' : Value} (h : BI x xs w0 E w A D L rm gR nx D2 M φ v1 v2 cs ds) (hp : 0 < cs.length) {c : Nat} (hg : w.grownBy w' v1.ownBlock) (hr : w'.ownsRow w0.heap.size 107 1 v' (cs.length + 1) (cs.map vp ++ [vp c])) (hv : v'.ownBlock = v1.ownBlock ∨ v'.ownBlock = some w.heap.size) : BI x xs w0 E w' A D L rm gR nx D2 M φ v' v2 (cs ++ [c]) ds := by
  obtain ⟨s, k⟩ := h.s.push1 hp (fun i hi c e => by rw [hi, h.item] at e; simp at e) hg hr hv
  exact ⟨s, (k x rfl).trans h.item⟩
theorem BI.push2 {L : List Sq} {D2 : Nat → Nat → Int} {cs ds : List Nat} {v' : Value} (h : BI x xs w0 E w A D L rm gR nx D2 M φ v1 v2 cs ds) (hp : 0 < ds.length) {c : Nat} (hg : w.grownBy w' v2.ownBlock) (hr : w'.ownsRow w0.heap.size 114 1 v' (ds.length + 1) (ds.map (fun g => .map (some g)) ++ [.map (some c)])) (hv : v'.ownBlock = v2.ownBlock ∨ v'.ownBlock = some w.heap.size) : BI x xs w0 E w' A D L rm gR nx D2 M φ v1 v' cs (ds ++ [c]) := by
  obtain ⟨s, k⟩ := h.s.push2 hp (fun i hi c e => by rw [hi, h.item] at e; simp at e) hg hr hv
  exact ⟨s, (k x rfl).trans h.item⟩
theorem VV.of_app {gc' g' : Nat} {c' : Nat} (hS : Same L M) (hL : L.length < 5) (hnx : nx ≤ j) (hmL : m < L.length) (hmM : m < M.length) (e1 : L[m].1 = c1) (e2 : M[m].2.1 = c2)
    (h : BI x xs w0 E w A D (L ++ [(c', gc', L[m].2.2)]) rm gR nx D (M ++ [(0, g', M[m].2.2)]) φ v1 v2 (L.map (·.1) ++ [c']) (M.map (·.2.1) ++ [g'])) : VV x xs w0 E w rm gR v1 v2 m c1 c2 j := by
  refine ⟨A, D, L ++ [(c', gc', L[m].2.2)], nx, M ++ [(0, g', M[m].2.2)], φ, by simp; omega, hnx, hS.app (hS.at hmL hmM), ⟨by simp; omega, by simp; omega, by rw [List.getElem_append_left hmL]; exact e1, by rw [List.getElem_append_left hmM]; exact e2⟩, ?_⟩
  simpa using h
/-- How many pages have a frame, each space at most one. -/
theorem BI.few {D2 : Nat → Nat → Int} {cs ds : List Nat} (h : BI x xs w0 E w A D L rm gR nx D2 M φ v1 v2 cs ds) (hS : Same L M) (hL : L.length ≤ 5) (hmM : m < M.length) : ∀ f, 0 ≤ f → totS M f + sh M[m].2.2 f ≤ 1000 := fun f hf => by
  have h1 := totS_le (L := L) (f := f) (fun y hy => by
    obtain ⟨i, hi, rfl⟩ := List.mem_iff_getElem.1 hy
    exact (h.s.bv.al.sp i hi).dis f hf)
  have h2 := totS_at hmM f
  rw [hS.tot] at h1
  omega
end
end Go.Proofs.YtcllfedpdcjbcaaDoor

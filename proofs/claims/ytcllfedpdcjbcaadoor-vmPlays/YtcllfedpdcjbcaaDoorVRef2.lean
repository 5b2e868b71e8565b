/- The document's own spaces (package almshouseref), as they lie in memory; what is only asked of them, by their Go text. -/
import Derived.Test.YtcllfedpdcjbcaaDoorVSpace2
import Derived.Test.YtcllfedpdcjbcaaDoorRanges
import Derived.BigQuiet
namespace Go.Proofs.YtcllfedpdcjbcaaDoor
open Go.RowKit Go.Shelf Go.Lib Go.Sort Go.Maps

/-- A page of the document's, as a value. -/
def rpg (p : Int) (R : Nat → Int) (f : Int) : Value := .agg #[.int .i64 p, .int .i64 (R 0), .int .i64 (R 1), .int .i64 (R 2), .int .i64 (R 3), .int .i64 (R 4), .int .i64 (R 5), .int .i64 (R 6), .int .i64 (R 7), .int .i64 f]
/-- The document's number of a frame (0: none). -/
def rid (φ : Int → Int) (f : Int) : Int := if f = -1 then 0 else φ f
def rwd (D : Nat → Nat → Int) (f : Int) : Nat → Int := fun k => if f = -1 then 0 else D f.toNat k
def rpv (P : PM) (D : Nat → Nat → Int) (φ : Int → Int) : Int → Option Value := fun a => (P a).map fun p => rpg p.1 (rwd D p.2) (rid φ p.2)
theorem rpv_isSome (P : PM) (D : Nat → Nat → Int) (φ : Int → Int) (a : Int) : (rpv P D φ a).isSome = (P a).isSome := by unfold rpv; cases P a <;> rfl
theorem rpv_get {P : PM} {a : Int} {p : Int × Int} (h : P a = some p) (D : Nat → Nat → Int) (φ : Int → Int) (z : Value) : (rpv P D φ a).getD z = rpg p.1 (rwd D p.2) (rid φ p.2) := by unfold rpv; rw [h]; rfl
theorem rpv_none {P : PM} {a : Int} (h : P a = none) (D : Nat → Nat → Int) (φ : Int → Int) (z : Value) : (rpv P D φ a).getD z = z := by unfold rpv; rw [h]; rfl
theorem zero_rpage (w : World) : (zeroValue 174).run Tryd.prog w = .ok (rpg 0 (fun _ => 0) 0) w := by kernel_rfl

set_option maxHeartbeats 400000 in
theorem in_ok (w : World) (x lo hi : Int) : Calls Tryd.prog 85 #[.int .i64 x, .int .i64 lo, .int .i64 hi] w fun e w' => e = .returned (.bool (decide (lo ≤ x) && decide (x ≤ hi))) ∧ w' = w := by
  by_cases h1 : lo ≤ x <;> by_cases h2 : x ≤ hi
  all_goals
    simp only [h1, h2, decide_true, decide_false, Bool.and_true, Bool.and_false]
    go_enter Tryd.func85, Tryd.ntmps85
    go_wp2_with fail
    go_ret
    exact ⟨rfl, rfl⟩

set_option maxRecDepth 100000 in
set_option maxHeartbeats 1000000 in
theorem rpages_ok (w : World) (a n : Int) : Calls Tryd.prog 103 #[.int .i64 a, .int .i64 n] w fun e w' => e = .returned (.bool (areP a n)) ∧ w' = w := by
  have hi1 := in_ok w a 0 63
  have hi2 := in_ok w n 1 64
  have hi3 := in_ok w (a + n) 1 64
  by_cases h1 : 0 ≤ a ∧ a ≤ 63
  · rw [decide_eq_true h1.1, decide_eq_true h1.2] at hi1
    by_cases h2 : 1 ≤ n ∧ n ≤ 64
    · rw [decide_eq_true h2.1, decide_eq_true h2.2] at hi2
      by_cases h3 : a + n ≤ 64
      · have hA : areP a n = true := areP_true.2 ⟨h2.1, h1.1, h3⟩
        rw [decide_eq_true (by omega), decide_eq_true h3] at hi3
        rw [hA]
        simp only [Bool.and_self] at hi1 hi2 hi3
        go_enter Tryd.func103, Tryd.ntmps103
        go_wp2_with fail
        refine hi1.mono ?_
        rintro e w1 ⟨rfl, h9⟩
        subst w1
        go_wp2_with fail
        refine hi2.mono ?_
        rintro e w1 ⟨rfl, h9⟩
        subst w1
        go_wp2_with fail
        refine hi3.mono ?_
        rintro e w1 ⟨rfl, h9⟩
        subst w1
        go_wp2_with fail
        go_ret
        exact ⟨rfl, rfl⟩
      · have hA : areP a n = false := by cases e : areP a n with | false => rfl | true => exact absurd (areP_true.1 e).2.2 h3
        rw [decide_eq_true (by omega), decide_eq_false h3] at hi3
        rw [hA]
        simp only [Bool.and_self, Bool.and_false] at hi1 hi2 hi3
        go_enter Tryd.func103, Tryd.ntmps103
        go_wp2_with fail
        refine hi1.mono ?_
        rintro e w1 ⟨rfl, h9⟩
        subst w1
        go_wp2_with fail
        refine hi2.mono ?_
        rintro e w1 ⟨rfl, h9⟩
        subst w1
        go_wp2_with fail
        refine hi3.mono ?_
        rintro e w1 ⟨rfl, h9⟩
        subst w1
        go_wp2_with fail
        go_ret
        exact ⟨rfl, rfl⟩
    · have hA : areP a n = false := by cases e : areP a n with | false => rfl | true => exfalso; have := areP_true.1 e; omega
      have hf : (decide (1 ≤ n) && decide (n ≤ 64)) = false := by
        by_cases h : 1 ≤ n
        · rw [decide_eq_true h, decide_eq_false (fun h' => h2 ⟨h, h'⟩)]; rfl
        · rw [decide_eq_false h]; rfl
      rw [hf] at hi2
      rw [hA]
      simp only [Bool.and_self] at hi1
      clear hi3
      go_enter Tryd.func103, Tryd.ntmps103
      go_wp2_with fail
      refine hi1.mono ?_
      rintro e w1 ⟨rfl, h9⟩
      subst w1
      go_wp2_with fail
      refine hi2.mono ?_
      rintro e w1 ⟨rfl, h9⟩
      subst w1
      go_wp2_with fail
      go_ret
      exact ⟨rfl, rfl⟩
  · have hA : areP a n = false := by cases e : areP a n with | false => rfl | true => exfalso; have := areP_true.1 e; omega
    have hf : (decide (0 ≤ a) && decide (a ≤ 63)) = false := by
      by_cases h : 0 ≤ a
      · rw [decide_eq_true h, decide_eq_false (fun h' => h1 ⟨h, h'⟩)]; rfl
      · rw [decide_eq_false h]; rfl
    rw [hf] at hi1
    rw [hA]
    clear hi2 hi3
    go_enter Tryd.func103, Tryd.ntmps103
    go_wp2_with (go_at_call 85; refine hi1.mono ?_; rintro e w1 ⟨rfl, h1⟩; subst w1)
    go_ret
    exact ⟨rfl, rfl⟩

section
variable {w : World} {gs n : Nat} {P : PM} {D : Nat → Nat → Int} {φ : Int → Int}

set_option maxRecDepth 100000 in
set_option maxHeartbeats 2000000 in
theorem rhas_ok (h : PMap w gs (lenP P) (rpv P D φ)) (a : Int) (n : Nat) (h0 : 0 ≤ a) (h1 : a + n ≤ 64) : Calls Tryd.prog 104 #[.map (some gs), .int .i64 a, .int .i64 (n : Int)] w fun e w' => e = .returned (.int .i64 (hasP P a n : Nat)) ∧ Below w.heap.size w w' := by
  go_enter Tryd.func104, Tryd.ntmps104
  go_wp2_with fail
  go_loopg [7, 12] n (fun mm s7 s12 wr => ∃ i : Nat, i + mm = n ∧ s12 = .int .i64 (i : Int) ∧ s7 = .int .i64 (hasP P a i : Nat) ∧ Below w.heap.size w wr)
  case atStart => exact ⟨0, by omega, rfl, rfl, Below.refl _ _⟩
  case round =>
    obtain ⟨i, hi, rfl, rfl, hb⟩ := hrel
    have hle := hasP_le P a i
    by_cases hlt : (i : Int) < (n : Int)
    · have hm := h.keep (hb.block gs h.lt)
      have hwf : (Lit.int .i64 (a + i)).wf = true := wf_small (by omega) (by omega)
      have hnx := hasP_next P a i
      have hs := rpv_isSome P D φ (a + i)
      have hg : ∃ x R f, (rpv P D φ (a + i)).getD (rpg 0 (fun _ => 0) 0) = rpg x R f := by
        cases e : P (a + i) with
        | none => exact ⟨_, _, _, rpv_none e D φ _⟩
        | some p => exact ⟨_, _, _, rpv_get e D φ _⟩
      obtain ⟨x, R, f, hg⟩ := hg
      generalize hS1 : hasP P a (i + 1) = S1 at *
      generalize hasP P a i = S0 at *
      have hbl := hb.size
      cases ht : (P (a + i)).isSome with
      | true =>
        rw [ht] at hs hnx
        replace hnx : S1 = S0 + 1 := hnx
        clear ht
        go_wp2_with (at_lookup; refine wpList_kask rfl _ _ 114 rfl 174 Tryd.underlying114 _ (zero_rpage _) gs _ _ rfl hm (a + i) rfl hwf ?_; rw [hg, hs]; simp only [rpg])
        go_roundg (n - (i + 1))
        case measure => omega
        case rel =>
          refine ⟨i + 1, by omega, by go_num, by rw [hS1, hnx]; go_num, ?_⟩
          repeat first | exact hb | refine Below.alloc ?_ (by first | omega | (simp <;> omega)) _ | refine Below.setCell ?_ (by first | omega | (simp <;> omega)) _
      | false =>
        rw [ht] at hs hnx
        replace hnx : S1 = S0 := hnx
        clear ht
        go_wp2_with (at_lookup; refine wpList_kask rfl _ _ 114 rfl 174 Tryd.underlying114 _ (zero_rpage _) gs _ _ rfl hm (a + i) rfl hwf ?_; rw [hg, hs]; simp only [rpg])
        go_roundg (n - (i + 1))
        case measure => omega
        case rel =>
          refine ⟨i + 1, by omega, by go_num, by rw [hS1, hnx], ?_⟩
          repeat first | exact hb | refine Below.alloc ?_ (by first | omega | (simp <;> omega)) _ | refine Below.setCell ?_ (by first | omega | (simp <;> omega)) _
    · have hin : i = n := by omega
      subst hin
      go_wp2_with fail
      go_ret
      exact ⟨rfl, hb⟩

/-- A page's ten cells. -/
def pcells (p : Int) (R : Nat → Int) (f : Int) : Array Value := #[.int .i64 p, .int .i64 (R 0), .int .i64 (R 1), .int .i64 (R 2), .int .i64 (R 3), .int .i64 (R 4), .int .i64 (R 5), .int .i64 (R 6), .int .i64 (R 7), .int .i64 f]

set_option maxRecDepth 100000 in
set_option maxHeartbeats 2000000 in
theorem ruse_ok (h : PMap w gs (lenP P) (rpv P D φ)) (hok : PgOk n P) (a k use : Int) (ha : (Lit.int .i64 a).wf = true) (hu : use = 1 ∨ use = 2) :
    Calls Tryd.prog 108 #[.map (some gs), .int .i64 a, .int .i64 k, .int .i64 use] w fun e w' => e = .returned (.int .i64 (useE P a k use)) ∧ Below w.heap.size w w' := by
  have hs := rpv_isSome P D φ a
  cases hP : P a with
  | none =>
    have hE : useE P a k use = 7 := by unfold useE; rw [hP]
    rw [hE]
    have hg := rpv_none hP D φ (rpg 0 (fun _ => 0) 0)
    rw [hP] at hs
    clear hE hP hok
    go_enter Tryd.func108, Tryd.ntmps108
    go_wp2_with (at_lookup; refine wpList_kask rfl _ _ 114 rfl 174 Tryd.underlying114 _ (zero_rpage _) gs _ _ rfl h a rfl ha ?_; rw [hg, hs]; simp only [rpg, Option.isSome_none])
    go_ret
    exact ⟨rfl, (Below.refl _ _).alloc (Nat.le_refl _) _⟩
  | some p =>
    have hpr := hok.prot a p hP
    have hE : useE P a k use = if 0 ≤ k ∧ k < 8 then (if p.1 / use % 2 = 0 then 13 else 0) else 2 := by unfold useE; rw [hP]
    have hg := rpv_get hP D φ (rpg 0 (fun _ => 0) 0)
    rw [hP] at hs
    generalize rwd D p.2 = R at hg
    generalize rid φ p.2 = F at hg
    obtain ⟨x, y⟩ := p
    simp only at hg hE hpr
    have hi := fun W => in_ok W k 0 7
    clear hP hok
    by_cases hk : 0 ≤ k ∧ k < 8
    · have hb : (decide (0 ≤ k) && decide (k ≤ 7)) = true := by rw [decide_eq_true hk.1, decide_eq_true (by omega)]; rfl
      rw [if_pos hk] at hE
      simp only [hb] at hi
      have hx : x = 1 ∨ x = 2 ∨ x = 3 := by omega
      rw [hE]
      clear hE
      rcases hx with rfl | rfl | rfl <;> rcases hu with rfl | rfl <;> simp only [Int.reduceDiv, Int.reduceMod, if_true, if_false, Int.reduceEq]
      all_goals
        go_enter Tryd.func108, Tryd.ntmps108
        go_wp2_with (first
          | (at_lookup; refine wpList_kask rfl _ _ 114 rfl 174 Tryd.underlying114 _ (zero_rpage _) gs _ _ rfl h a rfl ha ?_; rw [hg, hs]; simp only [rpg, Option.isSome_some])
          | (go_at_call 85; refine (hi _).mono ?_; rintro e w1 ⟨rfl, h1⟩; subst w1))
        go_ret
        exact ⟨rfl, (Below.refl _ _).alloc (Nat.le_refl _) _⟩
    · have hb : (decide (0 ≤ k) && decide (k ≤ 7)) = false := by
        by_cases h0 : 0 ≤ k
        · rw [decide_eq_true h0, decide_eq_false (by omega)]; rfl
        · rw [decide_eq_false h0]; rfl
      rw [if_neg hk] at hE
      simp only [hb] at hi
      rw [hE]
      clear hE
      go_enter Tryd.func108, Tryd.ntmps108
      go_wp2_with (first
        | (at_lookup; refine wpList_kask rfl _ _ 114 rfl 174 Tryd.underlying114 _ (zero_rpage _) gs _ _ rfl h a rfl ha ?_; rw [hg, hs]; simp only [rpg, Option.isSome_some])
        | (go_at_call 85; refine (hi _).mono ?_; rintro e w1 ⟨rfl, h1⟩; subst w1))
      go_ret
      exact ⟨rfl, (Below.refl _ _).alloc (Nat.le_refl _) _⟩
end
end Go.Proofs.YtcllfedpdcjbcaaDoor

namespace Go.Proofs.YtcllfedpdcjbcaaDoor
open Go.RowKit Go.Shelf Go.Lib Go.Sort Go.Maps

theorem rwords (p : Int) (R : Nat → Int) (f : Int) (W : World) : (Instr.field 174 (rpg p R f) 1).run Tryd.prog W = .ok (.agg (eight R).toArray) W := by kernel_rfl
theorem rindex (R : Nat → Int) (k : Nat) (hk : k < 8) (W : World) : (Instr.index 36 (.agg (eight R).toArray) (.int .i64 (k : Int))).run Tryd.prog W = .ok (.int .i64 (R k)) W := by
  rcases k with _ | _ | _ | _ | _ | _ | _ | _ | k
  · exact (show (Instr.index 36 (.agg (eight R).toArray) (.int .i64 0)).run Tryd.prog W = .ok (.int .i64 (R 0)) W by kernel_rfl)
  · exact (show (Instr.index 36 (.agg (eight R).toArray) (.int .i64 1)).run Tryd.prog W = .ok (.int .i64 (R 1)) W by kernel_rfl)
  · exact (show (Instr.index 36 (.agg (eight R).toArray) (.int .i64 2)).run Tryd.prog W = .ok (.int .i64 (R 2)) W by kernel_rfl)
  · exact (show (Instr.index 36 (.agg (eight R).toArray) (.int .i64 3)).run Tryd.prog W = .ok (.int .i64 (R 3)) W by kernel_rfl)
  · exact (show (Instr.index 36 (.agg (eight R).toArray) (.int .i64 4)).run Tryd.prog W = .ok (.int .i64 (R 4)) W by kernel_rfl)
  · exact (show (Instr.index 36 (.agg (eight R).toArray) (.int .i64 5)).run Tryd.prog W = .ok (.int .i64 (R 5)) W by kernel_rfl)
  · exact (show (Instr.index 36 (.agg (eight R).toArray) (.int .i64 6)).run Tryd.prog W = .ok (.int .i64 (R 6)) W by kernel_rfl)
  · exact (show (Instr.index 36 (.agg (eight R).toArray) (.int .i64 7)).run Tryd.prog W = .ok (.int .i64 (R 7)) W by kernel_rfl)
  · omega

section
variable {w : World} {gs n : Nat} {P : PM} {D : Nat → Nat → Int} {φ : Int → Int}

set_option maxRecDepth 100000 in
set_option maxHeartbeats 2000000 in
theorem rload_ok (h : PMap w gs (lenP P) (rpv P D φ)) (hok : PgOk n P) (a k : Int) (ha : (Lit.int .i64 a).wf = true) :
    Calls Tryd.prog 65 #[.map (some gs), .int .i64 a, .int .i64 k] w fun e w' => e = .returned (.tuple #[.int .i64 (loadV P D a k), .int .i64 (useE P a k 1)]) ∧ Below w.heap.size w w' := by
  have hU := ruse_ok h hok a k 1 ha (.inl rfl)
  obtain ⟨V, hV⟩ : ∃ V, loadV P D a k = V := ⟨_, rfl⟩
  rw [hV]
  by_cases hz : useE P a k 1 = 0
  · obtain ⟨p, hP⟩ : ∃ p, P a = some p := by
      cases e : P a with
      | none => unfold useE at hz; rw [e] at hz; simp at hz
      | some p => exact ⟨p, rfl⟩
    have hk : 0 ≤ k ∧ k < 8 := by
      apply Classical.byContradiction; intro hk
      unfold useE at hz; rw [hP] at hz; simp only [if_neg hk] at hz; omega
    obtain ⟨kk, rfl⟩ : ∃ kk : Nat, k = (kk : Int) := ⟨k.toNat, by omega⟩
    rw [loadV, if_pos hz, Int.toNat_natCast] at hV
    have hg := rpv_get hP D φ (rpg 0 (fun _ => 0) 0)
    have hw := rwords p.1 (rwd D p.2) (rid φ p.2)
    have hx := rindex (rwd D p.2) kk (by omega)
    have hrw : rwd D p.2 kk = V := by rw [← hV]; unfold rwd wd; rw [frm_some hP]
    rw [hrw] at hx
    rw [hz] at hU ⊢
    generalize rpg p.1 (rwd D p.2) (rid φ p.2) = pgv0 at *
    generalize (eight (rwd D p.2)).toArray = arr at *
    have hm : ∀ w', Below w.heap.size w w' → PMap w' gs (lenP P) (rpv P D φ) := fun w' hb => h.keep (hb.block gs h.lt)
    clear hz hP hV hrw hok
    go_enter Tryd.func65, Tryd.ntmps65
    go_wp2_with fail
    refine hU.mono ?_
    rintro e w1 ⟨rfl, b1⟩
    have hm1 := hm w1 b1
    go_wp2_with (at_lookup; refine wpList_klook rfl _ _ 114 rfl 174 Tryd.underlying114 _ (zero_rpage _) gs _ _ rfl hm1 a rfl ha ?_; rw [hg])
    go_ret2
    exact ⟨rfl, b1⟩
  · rw [loadV, if_neg hz] at hV
    subst hV
    generalize useE P a k 1 = er at *
    go_enter Tryd.func65, Tryd.ntmps65
    go_wp2_with fail
    refine hU.mono ?_
    rintro e w1 ⟨rfl, b1⟩
    go_wp2_with fail
    go_ret2
    exact ⟨rfl, b1⟩
end

/-- The document's store: how many pages have each of its frames' numbers; the next number. -/
structure RM (w : World) (rm gR n nx : Nat) (Rr : Int → Option Nat) (s : Nat) : Prop where
  head : w.heap[rm]? = some (.cells #[.int .i64 (n : Int), .map (some gR), .int .i64 (nx : Int)] 170)
  map : PMap w gR s (tm Rr)
  small : ∀ x k, Rr x = some k → 1 ≤ k ∧ k ≤ 1000

section
variable {w w' : World} {rm gR n nx s : Nat} {Rr : Int → Option Nat}
theorem RM.lt (h : RM w rm gR n nx Rr s) : rm < w.heap.size := lt_of_heap h.head
theorem RM.glt (h : RM w rm gR n nx Rr s) : gR < w.heap.size := h.map.lt
theorem RM.ne (h : RM w rm gR n nx Rr s) : rm ≠ gR := by
  rintro rfl
  obtain ⟨es, cl, hm⟩ := h.map.isMap
  rw [h.head] at hm; cases hm
theorem RM.keep (h : RM w rm gR n nx Rr s) (h1 : w'.heap[rm]? = w.heap[rm]?) (h2 : w'.heap[gR]? = w.heap[gR]?) : RM w' rm gR n nx Rr s := ⟨h1.trans h.head, h.map.keep h2, h.small⟩
theorem RM.below (h : RM w rm gR n nx Rr s) (hb : Below w.heap.size w w') : RM w' rm gR n nx Rr s := h.keep (hb.block _ h.lt) (hb.block _ h.glt)
theorem RM.c0 (h : RM w rm gR n nx Rr s) : w.cell? ⟨rm, 0, none⟩ = some (.int .i64 (n : Int)) := by rw [cell_of_row w rm 0 _ _ _ h.head]; rfl
theorem RM.c1 (h : RM w rm gR n nx Rr s) : w.cell? ⟨rm, 1, none⟩ = some (.map (some gR)) := by rw [cell_of_row w rm 1 _ _ _ h.head]; rfl
theorem RM.c2 (h : RM w rm gR n nx Rr s) : w.cell? ⟨rm, 2, none⟩ = some (.int .i64 (nx : Int)) := by rw [cell_of_row w rm 2 _ _ _ h.head]; rfl

set_option maxRecDepth 100000 in
set_option maxHeartbeats 2000000 in
theorem RM.left (h : RM w rm gR n nx Rr s) (hs : s ≤ n) (hn : n ≤ 256) : Calls Tryd.prog 76 #[vp rm] w fun e w' => e = .returned (.int .i64 ((n - s : Nat) : Int)) ∧ ∃ q, w' = w.drewN q := by
  have c0 := h.c0
  have c1 := h.c1
  have hl := (h.map.keep (w' := w.drew) rfl).len Tryd.underlying65 3
  rw [show ((n - s : Nat) : Int) = (n : Int) - (s : Int) by omega]
  clear h
  go_enter Tryd.func76, Tryd.ntmps76
  go_wp2_with fail
  go_region
  go_wp2_with fail
  go_ret
  exact ⟨rfl, 1, rfl⟩

set_option maxHeartbeats 1000000 in
theorem less_nil (rm : Nat) (w : World) : Calls Tryd.prog 105 #[vp rm, .int .i64 0] w fun e w' => e = .returned (.tuple #[]) ∧ w' = w := by
  go_enter Tryd.func105, Tryd.ntmps105
  go_wp2_with fail
  (try simp only [Exit.inBlock, Exit.then]); refine bodyPost_ret (results_none rfl _ _ _) rfl ?_
  exact ⟨rfl, rfl⟩

set_option maxHeartbeats 2000000 in
theorem RM.less (h : RM w rm gR n nx Rr s) (x : Int) (h0 : 1 ≤ x) (h1 : x < 1000) (hx : (Rr x).isSome = true) (hs : s < maxLen) :
    Calls Tryd.prog 105 #[vp rm, .int .i64 x] w fun e w' => e = .returned (.tuple #[]) ∧ RM w' rm gR n nx (dropR Rr x) (if val Rr x ≤ 1 then s - 1 else s) ∧ w.grownBy w' (some gR) := by
  have c1 := h.c1
  have hm := h.map
  have hbg := h.ne
  have hv := (h.small x (val Rr x) (by unfold val; cases e : Rr x with | none => rw [e] at hx; cases hx | some k => rfl))
  have ht := tm_val Rr x
  have hsm : (tm Rr x).isSome = true := by rw [tm_isSome]; exact hx
  have hwf : (Lit.int .i64 x).wf = true := wf_small (by omega) (by omega)
  have hne : ¬ x = 0 := by omega
  have hbs : some rm ≠ some gR := fun e => hbg (Option.some.inj e)
  have hsml : ∀ y k, dropR Rr x y = some k → 1 ≤ k ∧ k ≤ 1000 := fun y k hk => by
    unfold dropR at hk; split at hk
    · split at hk
      · cases hk
      · cases hk; omega
    · exact h.small y k hk
  have hfin : ∀ w' s', PMap w' gR s' (tm (dropR Rr x)) → Fr (· = gR) w w' → RM w' rm gR n nx (dropR Rr x) s' := fun w' s' pm fr => ⟨(fr.block _ h.lt hbg).trans h.head, pm, hsml⟩
  by_cases h1v : val Rr x ≤ 1
  · rw [if_pos h1v]
    have hv1 : val Rr x = 1 := by omega
    have hpm : (fun i => if i = x then none else if i = x then some (.int .i64 0) else tm Rr i) = tm (dropR Rr x) := by
      rw [dropR_last h1v]; funext i; unfold tm; by_cases e : i = x <;> simp [e]
    replace ht : (tm Rr x).getD (.int .i64 0) = .int .i64 1 := by rw [ht, hv1]; rfl
    clear h hsml
    go_enter Tryd.func105, Tryd.ntmps105
    go_wp2_with (first
      | (at_lookup; refine wpList_klook rfl _ _ 65 rfl 3 Tryd.underlying65 _ (zero_int _) gR _ _ rfl hm x rfl hwf ?_; rw [ht])
      | (at_lookup; refine wpList_klook rfl _ _ 65 rfl 3 Tryd.underlying65 _ (zero_int _) gR _ _ rfl pm1 x rfl hwf ?_; simp only [if_true, Option.getD_some])
      | (at_mapUpdate; refine wpList_kput rfl _ _ _ 65 rfl 3 Tryd.underlying65 gR _ _ rfl hm hs x rfl hwf (.int .i64 0) rfl ?_; intro w1 pm1 g1; have c1' := g1.cell c1 hbs)
      | (at_delete; refine wpList_kdel rfl _ _ 65 rfl 3 Tryd.underlying65 gR _ _ rfl pm1 x rfl hwf ?_; intro w2 pm2 g2; rw [hpm] at pm2))
    go_end0
    have hg : w.grownBy w2 (some gR) := ⟨g2.os.trans g1.os, g2.tape.trans g1.tape, g2.output.trans g1.output, Nat.le_trans g1.size g2.size, fun i hi hn => (g2.block i (Nat.lt_of_lt_of_le hi g1.size) hn).trans (g1.block i hi hn)⟩
    refine ⟨rfl, hfin _ _ ?_ (Fr.grown hg), hg⟩
    simpa [hsm] using pm2
  · rw [if_neg h1v]
    have hpm : (fun i => if i = x then some (.int .i64 ((val Rr x : Int) - 1)) else tm Rr i) = tm (dropR Rr x) := by
      rw [dropR_more (by omega), ← tm_putC]; funext i; rw [show (((val Rr x - 1 : Nat)) : Int) = (val Rr x : Int) - 1 by omega]
    clear h hsml
    generalize val Rr x = v at *
    go_enter Tryd.func105, Tryd.ntmps105
    go_wp2_with (first
      | (at_lookup; refine wpList_klook rfl _ _ 65 rfl 3 Tryd.underlying65 _ (zero_int _) gR _ _ rfl hm x rfl hwf ?_; rw [ht])
      | (at_lookup; refine wpList_klook rfl _ _ 65 rfl 3 Tryd.underlying65 _ (zero_int _) gR _ _ rfl pm1 x rfl hwf ?_; simp only [if_true, Option.getD_some])
      | (at_mapUpdate; refine wpList_kput rfl _ _ _ 65 rfl 3 Tryd.underlying65 gR _ _ rfl hm hs x rfl hwf (.int .i64 ((v : Int) - 1)) rfl ?_; intro w1 pm1 g1; have c1' := g1.cell c1 hbs))
    go_end0
    refine ⟨rfl, hfin _ _ ?_ (Fr.grown g1), g1⟩
    rw [hpm, if_pos hsm] at pm1; exact pm1
end
end Go.Proofs.YtcllfedpdcjbcaaDoor

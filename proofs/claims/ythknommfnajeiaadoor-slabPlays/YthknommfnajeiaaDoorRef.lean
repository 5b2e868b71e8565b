/- The document's pool as it lies in memory, frame by frame; what its Left and whole answer. -/
import Derived.Test.YthknommfnajeiaaDoorFree
namespace Go.Proofs.YthknommfnajeiaaDoor
open Go.RowKit Go.Shelf Go.Lib Go.Sort

theorem hid {p : Prop} (h : p) : Hid p := h

/-- The document's pool at block r: of n frames U are free (their row at block f), T is taken (the map at block g). -/
structure RAt (w : World) (r f g n : Nat) (U : Nat → Bool) (T : Int → Option Nat) (m : Nat) : Prop where
  head : ∃ cap, w.heap[r]? = some (.cells #[.slice (some ⟨f, 0, none⟩) n cap, .map (some g)] 99) ∧ n ≤ cap
  row : ∃ c : Array Value, w.heap[f]? = some (.cells c 4) ∧ ∀ i, i < n → c[i]? = some (.bool (U i))
  map : ∃ s, PMap w g s (tm T) ∧ s ≤ m
  bound : ∀ i, U i = true → i < n
  small : n ≤ 256

def rown (r f g : Nat) (i : Nat) : Prop := i = r ∨ i = f ∨ i = g

theorem RAt.keep {w w' : World} {r f g n : Nat} {U : Nat → Bool} {T : Int → Option Nat} {m : Nat} (h : RAt w r f g n U T m) (hk : ∀ i, rown r f g i → w'.heap[i]? = w.heap[i]?) : RAt w' r f g n U T m := by
  obtain ⟨⟨cap, h1, h2⟩, ⟨c, h3, h4⟩, ⟨s, h5, h6⟩, h7, h8⟩ := h
  exact ⟨⟨cap, (hk r (.inl rfl)).trans h1, h2⟩, ⟨c, (hk f (.inr (.inl rfl))).trans h3, h4⟩, ⟨s, h5.keep (hk g (.inr (.inr rfl))), h6⟩, h7, h8⟩

theorem RAt.lt {w : World} {r f g n : Nat} {U : Nat → Bool} {T : Int → Option Nat} {m : Nat} (h : RAt w r f g n U T m) {i : Nat} (hi : rown r f g i) : i < w.heap.size := by
  obtain ⟨⟨cap, h1, _⟩, ⟨c, h3, _⟩, ⟨s, h5, _⟩, _, _⟩ := h
  rcases hi with rfl | rfl | rfl
  · exact lt_of_heap h1
  · exact lt_of_heap h3
  · exact h5.lt

theorem RAt.cells {w : World} {r f g n : Nat} {U : Nat → Bool} {T : Int → Option Nat} {m : Nat} (h : RAt w r f g n U T m) : ∃ cap, w.cell? ⟨r, 0, none⟩ = some (.slice (some ⟨f, 0, none⟩) n cap) ∧ w.cell? ⟨r, 1, none⟩ = some (.map (some g)) ∧ n ≤ cap := by
  obtain ⟨⟨cap, h1, h2⟩, _⟩ := h
  exact ⟨cap, by rw [cell_of_row w r _ _ _ _ h1]; rfl, by rw [cell_of_row w r _ _ _ _ h1]; rfl, h2⟩

theorem RAt.bit {w : World} {r f g n : Nat} {U : Nat → Bool} {T : Int → Option Nat} {m : Nat} (h : RAt w r f g n U T m) {i : Nat} (hi : i < n) : w.cell? ⟨f, i, none⟩ = some (.bool (U i)) ∧ w.frozen? ⟨f, i, none⟩ = false := by
  obtain ⟨_, ⟨c, h3, h4⟩, _⟩ := h
  exact ⟨by rw [cell_of_row w f _ _ _ _ h3]; exact h4 i hi, by simp [World.frozen?, h3]⟩

/-- One frame turned. -/
theorem RAt.set {w : World} {r f g n : Nat} {U : Nat → Bool} {T : Int → Option Nat} {m : Nat} (h : RAt w r f g n U T m) {i : Nat} (hi : i < n) (x : Bool) : RAt (w.setCell ⟨f, i, none⟩ (.bool x)) r f g n (fun j => if j = i then x else U j) T m := by
  obtain ⟨⟨cap, h1, h2⟩, ⟨c, h3, h4⟩, ⟨s, h5, h6⟩, h7, h8⟩ := h
  have hrf : r ≠ f := by intro e; subst e; rw [h1] at h3; cases h3
  have hgf : g ≠ f := by intro e; subst e; obtain ⟨es, cl, hm⟩ := h5.isMap; rw [hm] at h3; cases h3
  refine ⟨⟨cap, (Below.heap_setCell _ _ _ _ hrf).trans h1, h2⟩, ⟨c.setIfInBounds i (.bool x), heap_setCell_same w f i _ c _ _ h3, fun j hj => ?_⟩, ⟨s, h5.keep (Below.heap_setCell _ _ _ _ hgf), h6⟩, fun j hj => ?_, h8⟩
  · rw [Array.getElem?_setIfInBounds]
    by_cases e : i = j
    · subst e
      have := h4 i hj
      have hlt : i < c.size := (Array.getElem?_eq_some_iff.1 this).1
      simp [hlt]
    · rw [if_neg e, h4 j hj, if_neg (fun h => e h.symm)]
  · by_cases e : j = i
    · omega
    · rw [if_neg e] at hj; exact h7 j hj

theorem Fr.bit {A : Nat → Prop} {w w1 : World} (h : Fr A w w1) (f i : Nat) (v : Value) (hf : A f) : Fr A w (w1.setCell ⟨f, i, none⟩ v) := h.setCell f i v (fun _ => hf)

theorem cnt_succ (U : Nat → Bool) (f k : Nat) : cnt U f (k + 1) = cnt U f k + if U (f + k) then 1 else 0 := by
  rw [cnt_add U k 1 f]; simp [cnt]

set_option maxRecDepth 100000 in
set_option maxHeartbeats 2000000 in
theorem rleft_ok {w : World} {r f g n : Nat} {U : Nat → Bool} {T : Int → Option Nat} {m : Nat} (h : RAt w r f g n U T m) :
    Calls Tryd.prog 26 #[pp r] w fun e w' => e = .returned (.int .i64 (cnt U 0 n : Nat)) ∧ w' = w := by
  obtain ⟨cap, c0, _, hcap⟩ := h.cells
  have hn := h.small
  go_enter Tryd.func26, Tryd.ntmps26
  go_wp2_with fail
  go_loopg [3, 11] n (fun mm s3 s11 wr => ∃ k : Nat, k + mm = n ∧ s3 = .int .i64 (cnt U 0 k : Nat) ∧ s11 = .int .i64 k ∧ wr = w)
  case atStart => exact ⟨0, by omega, rfl, rfl, rfl⟩
  case round =>
    obtain ⟨k, hk, rfl, rfl, hw⟩ := hrel
    subst wr
    by_cases hlt : (k : Int) < n
    · have hb := (h.bit (i := k) (by omega)).1
      have hcs := cnt_succ U 0 k
      have hcl := cnt_le U k 0
      rw [Nat.zero_add] at hcs
      cases hU : U k with
      | true =>
        rw [hU] at hb hcs
        go_wp2_with fail
        go_roundg (n - (k + 1))
        case measure => omega
        case rel => exact ⟨k + 1, by omega, by rw [hcs]; go_num, by go_num, rfl⟩
      | false =>
        rw [hU] at hb hcs
        go_wp2_with fail
        go_roundg (n - (k + 1))
        case measure => omega
        case rel => exact ⟨k + 1, by omega, by rw [hcs]; rfl, by go_num, rfl⟩
    · have hk' : k = n := by omega
      subst hk'
      go_wp2_with fail
      go_ret
      exact ⟨rfl, rfl⟩

set_option maxRecDepth 100000 in
set_option maxHeartbeats 2000000 in
theorem whole_ok {w : World} {r f g n : Nat} {U : Nat → Bool} {T : Int → Option Nat} {m : Nat} (h : RAt w r f g n U T m) (z k : Nat) (hz : z < 256) (hk : k ≤ 6) :
    Calls Tryd.prog 54 #[pp r, .int .i64 z, .int .i64 k] w fun e w' => e = .returned (.bool ((List.range (2 ^ k)).all fun i => U (z + i))) ∧ w' = w := by
  obtain ⟨cap, c0, _, hcap⟩ := h.cells
  have hn := h.small
  have hw := pow_wrap (z := z) (j := k) hz hk
  have hpk : 2 ^ k ≤ 64 := Nat.le_trans (Nat.pow_le_pow_right (by omega) hk) (by decide)
  have hpc : ((2 ^ k : Nat) : Int) = (2 : Int) ^ k := by simp
  generalize hx : 2 ^ k = x at *
  rw [← hpc] at hw
  go_enter Tryd.func54, Tryd.ntmps54
  go_wp2_with fail
  go_loopg [7] x (fun mm s7 wr => ∃ j : Nat, j + mm = x ∧ s7 = .int .i64 ((z + j : Nat) : Int) ∧ wr = w ∧ ∀ i, i < j → U (z + i) = true)
  case atStart => exact ⟨0, by omega, rfl, rfl, fun i hi => by omega⟩
  case round =>
    obtain ⟨j, hj, rfl, hwr, hall⟩ := hrel
    subst wr
    by_cases hlt : j < x
    · have hlt' : ((z + j : Nat) : Int) < (z : Int) + (x : Int) := by omega
      have hfalse : U (z + j) = false → ((List.range x).all fun i => U (z + i)) = false := by
        intro hU
        rw [List.all_eq_false]
        exact ⟨j, List.mem_range.2 hlt, by simp [hU]⟩
      by_cases hzn : z + j < n
      · have hb := (h.bit (i := z + j) hzn).1
        have hzn' : ¬ (n : Int) ≤ ((z + j : Nat) : Int) := by omega
        cases hU : U (z + j) with
        | true =>
          rw [hU] at hb
          clear hfalse
          go_wp2_with fail
          go_roundg (x - (j + 1))
          case measure => omega
          case rel => exact ⟨j + 1, by omega, by go_num, rfl, fun i hi => by
            by_cases e : i = j
            · rw [e]; exact hU
            · exact hall i (by omega)⟩
        | false =>
          rw [hU] at hb
          have hf := hid (hfalse hU)
          clear hfalse
          go_wp2_with fail
          go_ret
          exact ⟨by rw [hf.out]; rfl, rfl⟩
      · have hU : U (z + j) = false := by
          cases e : U (z + j) with
          | false => rfl
          | true => exact absurd (h.bound _ e) hzn
        have hzn' : (n : Int) ≤ ((z + j : Nat) : Int) := by omega
        have hf := hid (hfalse hU)
        clear hfalse
        go_wp2_with fail
        go_ret
        exact ⟨by rw [hf.out]; rfl, rfl⟩
    · have hlt' : ¬ ((z + j : Nat) : Int) < (z : Int) + (x : Int) := by omega
      have ht : ((List.range x).all fun i => U (z + i)) = true := by
        rw [List.all_eq_true]; intro i hi; exact hall i (by have := List.mem_range.1 hi; omega)
      have hf := hid ht
      clear ht
      go_wp2_with fail
      go_ret
      exact ⟨by rw [hf.out]; rfl, rfl⟩
end Go.Proofs.YthknommfnajeiaaDoor

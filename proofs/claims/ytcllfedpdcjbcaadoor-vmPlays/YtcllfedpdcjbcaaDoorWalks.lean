/- What New, Set, Get, Zero and Copy of package frames do to a world, each by its Go text. -/
import Derived.Test.YtcllfedpdcjbcaaDoorMem
import Derived.Test.YtcllfedpdcjbcaaDoorRows
import Derived.WalkLawsBesides
import Derived.Outline
namespace Go.Proofs.YtcllfedpdcjbcaaDoor
open Go.RowKit

abbrev mp (b : Nat) : Value := .pointer (some ⟨b, 0, none⟩)
abbrev refused : Value := .iface 29 (.int .i64 2)

set_option maxHeartbeats 400000 in
theorem len_any {w : World} {b s n : Nat} (hh : w.cell? ⟨b, 0, none⟩ = some (.slice (some ⟨s, 0, none⟩) n n)) :
    Calls Tryd.prog 14 #[mp b] w fun e w' => e = .returned (.int .i64 n) ∧ w' = w := by
  go_enter Tryd.func14, Tryd.ntmps14
  go_wp2
  go_ret
  exact ⟨rfl, rfl⟩

set_option maxHeartbeats 400000 in
theorem get_ok {w : World} {b s n : Nat} {D : Nat → Nat → Int} (m : Mem w b s n D) (f k : Int) (hf : 0 ≤ f) (hf' : f < n) (hk : 0 ≤ k) (hk' : k < 8) :
    Calls Tryd.prog 18 #[mp b, .int .i64 f, .int .i64 k] w fun e w' => e = .returned (.tuple #[.int .i64 (D f.toNat k.toNat), .nilIface]) ∧ w' = w := by
  have hh := m.head
  have hw := m.word f.toNat k.toNat (by omega) (by omega)
  go_enter Tryd.func18, Tryd.ntmps18
  go_wp2
  go_ret2
  exact ⟨rfl, rfl⟩

set_option maxHeartbeats 400000 in
theorem get_no {w : World} {b s n : Nat} {D : Nat → Nat → Int} (m : Mem w b s n D) (f k : Int) (h : ¬ (0 ≤ f ∧ f < n) ∨ ¬ (0 ≤ k ∧ k < 8)) :
    Calls Tryd.prog 18 #[mp b, .int .i64 f, .int .i64 k] w fun e w' => e = .returned (.tuple #[.int .i64 0, refused]) ∧ w' = w := by
  have hh := m.head
  by_cases h1 : 0 ≤ f <;> by_cases h2 : f < n <;> by_cases h3 : 0 ≤ k <;> by_cases h4 : k < 8
  all_goals first
    | (exfalso; omega)
    | (clear h
       go_enter Tryd.func18, Tryd.ntmps18
       go_wp2
       go_ret2
       exact ⟨rfl, rfl⟩)

set_option maxHeartbeats 400000 in
theorem set_ok {w : World} {b s n : Nat} {D : Nat → Nat → Int} (m : Mem w b s n D) (f k v : Int) (hf : 0 ≤ f) (hf' : f < n) (hk : 0 ≤ k) (hk' : k < 8) :
    Calls Tryd.prog 15 #[mp b, .int .i64 f, .int .i64 k, .int .i64 v] w fun e w' => e = .returned .nilIface ∧ Mem w' b s n (upd D f.toNat k.toNat v) ∧ Below s w w' ∧ w.grownBy w' (some s) := by
  have hh := m.head
  have hw := m.word f.toNat k.toNat (by omega) (by omega)
  have hl := m.live f.toNat k.toNat (by omega) (by omega)
  go_enter Tryd.func15, Tryd.ntmps15
  go_wp2
  go_ret
  exact ⟨rfl, m.set _ _ (by omega) (by omega) v, (Below.refl s w).setCell (p := ⟨s, _, none⟩) (Nat.le_refl s) _, grown_set _ _ _ _⟩

set_option maxHeartbeats 400000 in
theorem set_no {w : World} {b s n : Nat} {D : Nat → Nat → Int} (m : Mem w b s n D) (f k v : Int) (h : ¬ (0 ≤ f ∧ f < n) ∨ ¬ (0 ≤ k ∧ k < 8)) :
    Calls Tryd.prog 15 #[mp b, .int .i64 f, .int .i64 k, .int .i64 v] w fun e w' => e = .returned refused ∧ w' = w := by
  have hh := m.head
  by_cases h1 : 0 ≤ f <;> by_cases h2 : f < n <;> by_cases h3 : 0 ≤ k <;> by_cases h4 : k < 8
  all_goals first
    | (exfalso; omega)
    | (clear h
       go_enter Tryd.func15, Tryd.ntmps15
       go_wp2
       go_ret
       exact ⟨rfl, rfl⟩)

set_option maxHeartbeats 400000 in
theorem zero_ok {w : World} {b s n : Nat} {D : Nat → Nat → Int} (m : Mem w b s n D) (f : Int) (hf : 0 ≤ f) (hf' : f < n) :
    Calls Tryd.prog 16 #[mp b, .int .i64 f] w fun e w' => e = .returned .nilIface ∧ Mem w' b s n (row D f.toNat fun _ => 0) ∧ Below s w w' ∧ w.grownBy w' (some s) := by
  have hh := m.head
  have ht := m.there f.toNat (by omega)
  go_enter Tryd.func16, Tryd.ntmps16
  go_wp2_with (first | go_in | (refine wpList_store_mid rfl 132 _ _ rfl s (f.toNat * 8) (eight fun _ => 0).toArray rfl rfl ht (by kernel_rfl) (all_oneCell_toArray (eight_one _)) ?_))
  go_ret
  exact ⟨rfl, m.put _ (by omega) _, Below.setCells s (Nat.le_refl s) _ _ w (Below.refl s w), grown_sets _ _ _ _⟩

set_option maxHeartbeats 400000 in
theorem zero_no {w : World} {b s n : Nat} {D : Nat → Nat → Int} (m : Mem w b s n D) (f : Int) (h : ¬ (0 ≤ f ∧ f < n)) :
    Calls Tryd.prog 16 #[mp b, .int .i64 f] w fun e w' => e = .returned refused ∧ w' = w := by
  have hh := m.head
  by_cases h1 : 0 ≤ f <;> by_cases h2 : f < n
  all_goals first
    | (exfalso; omega)
    | (clear h
       go_enter Tryd.func16, Tryd.ntmps16
       go_wp2
       go_ret
       exact ⟨rfl, rfl⟩)

set_option maxHeartbeats 400000 in
theorem copy_no {w : World} {b s n : Nat} {D : Nat → Nat → Int} (m : Mem w b s n D) (f g : Int) (h : ¬ (0 ≤ f ∧ f < n) ∨ ¬ (0 ≤ g ∧ g < n)) :
    Calls Tryd.prog 17 #[mp b, .int .i64 f, .int .i64 g] w fun e w' => e = .returned refused ∧ w' = w := by
  have hh := m.head
  by_cases h1 : 0 ≤ f <;> by_cases h2 : f < n <;> by_cases h3 : 0 ≤ g <;> by_cases h4 : g < n
  all_goals first
    | (exfalso; omega)
    | (clear h
       go_enter Tryd.func17, Tryd.ntmps17
       go_wp2
       go_ret
       exact ⟨rfl, rfl⟩)
end Go.Proofs.YtcllfedpdcjbcaaDoor

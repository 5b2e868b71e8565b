/- What Copy of package frames does to a world, by its Go text. -/
import Derived.Test.YtemomohijidmpaaGreatDoorWalks
import Derived.RegionTactic
import Derived.ChangeAlike
namespace Go.Proofs.YtemomohijidmpaaGreatDoor
open Go.RowKit

theorem setCells_eight (w : World) (s o : Nat) (R : Nat → Int) : w.setCells s o (eight R) =
    (((((((w.setCell ⟨s, o, none⟩ (.int .i64 (R 0))).setCell ⟨s, o + 1, none⟩ (.int .i64 (R 1))).setCell ⟨s, o + 2, none⟩ (.int .i64 (R 2))).setCell ⟨s, o + 3, none⟩ (.int .i64 (R 3))).setCell ⟨s, o + 4, none⟩ (.int .i64 (R 4))).setCell ⟨s, o + 5, none⟩ (.int .i64 (R 5))).setCell ⟨s, o + 6, none⟩ (.int .i64 (R 6))).setCell ⟨s, o + 7, none⟩ (.int .i64 (R 7)) := rfl

theorem grown_drew {w w' : World} {r : Option Nat} (h : w.grownBy w' r) : w.grownBy w'.drew r := ⟨h.os, h.tape, h.output, h.size, h.block⟩

theorem Mem.drew {w : World} {b s n : Nat} {D : Nat → Nat → Int} (m : Mem w b s n D) : Mem w.drew b s n D := m.keep rfl rfl

set_option maxHeartbeats 1000000 in
theorem copy_ok {w : World} {b s n : Nat} {D : Nat → Nat → Int} (m : Mem w b s n D) (f g : Int) (hf : 0 ≤ f) (hf' : f < n) (hg : 0 ≤ g) (hg' : g < n) :
    Calls Tryz.prog 49 #[mp b, .int .i64 f, .int .i64 g] w fun e w' => e = .returned .nilIface ∧ Mem w' b s n (row D f.toNat (D g.toNat)) ∧ Below s w w' ∧ w.grownBy w' (some s) := by
  have hh := m.head
  have c0 : w.cell? ⟨s, g.toNat * 8, none⟩ = some (.int .i64 (D g.toNat 0)) := m.word g.toNat 0 (by omega) (by omega)
  have c1 := m.word g.toNat 1 (by omega) (by omega)
  have c2 := m.word g.toNat 2 (by omega) (by omega)
  have c3 := m.word g.toNat 3 (by omega) (by omega)
  have c4 := m.word g.toNat 4 (by omega) (by omega)
  have c5 := m.word g.toNat 5 (by omega) (by omega)
  have c6 := m.word g.toNat 6 (by omega) (by omega)
  have c7 := m.word g.toNat 7 (by omega) (by omega)
  have d0 : w.cell? ⟨s, f.toNat * 8, none⟩ = some (.int .i64 (D f.toNat 0)) := m.word f.toNat 0 (by omega) (by omega)
  have d1 := m.word f.toNat 1 (by omega) (by omega)
  have d2 := m.word f.toNat 2 (by omega) (by omega)
  have d3 := m.word f.toNat 3 (by omega) (by omega)
  have d4 := m.word f.toNat 4 (by omega) (by omega)
  have d5 := m.word f.toNat 5 (by omega) (by omega)
  have d6 := m.word f.toNat 6 (by omega) (by omega)
  have d7 := m.word f.toNat 7 (by omega) (by omega)
  have l0 : w.frozen? ⟨s, f.toNat * 8, none⟩ = false := m.live f.toNat 0 (by omega) (by omega)
  have l1 := m.live f.toNat 1 (by omega) (by omega)
  have l2 := m.live f.toNat 2 (by omega) (by omega)
  have l3 := m.live f.toNat 3 (by omega) (by omega)
  have l4 := m.live f.toNat 4 (by omega) (by omega)
  have l5 := m.live f.toNat 5 (by omega) (by omega)
  have l6 := m.live f.toNat 6 (by omega) (by omega)
  have l7 := m.live f.toNat 7 (by omega) (by omega)
  go_enter Tryz.func49, Tryz.ntmps49
  go_wp2
  go_region
  go_wp2
  go_ret
  have fin := Mem.put m f.toNat (by omega) (D g.toNat)
  have bel := Below.setCells s (Nat.le_refl s) (eight (D g.toNat)) (f.toNat * 8) w (Below.refl s w)
  have gro := grown_sets s (eight (D g.toNat)) (f.toNat * 8) w
  rw [setCells_eight] at fin bel gro
  exact ⟨rfl, fin.drew, bel.drew, grown_drew gro⟩
end Go.Proofs.YtemomohijidmpaaGreatDoor

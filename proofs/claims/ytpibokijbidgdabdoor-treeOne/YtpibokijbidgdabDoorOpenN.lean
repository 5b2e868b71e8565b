/- Things to do, opened. -/
import Derived.Test.YtpibokijbidgdabDoorYOne
import Derived.Test.YtpibokijbidgdabDoorOpenB
namespace Go.Proofs.YtpibokijbidgdabDoor
open Go.ChangeShapes Go.WideShapes Go.ChangeAt Go.RowKit

set_option maxRecDepth 100000 in
theorem one_long (ad : Option Addr) (len cap : Nat) (a b : List UInt8) (w : World) (h : 30 < len ∨ 60 < a.length ∨ 60 < b.length) :
    Calls Tryd.prog 6 #[.slice ad len cap, tx a, tx b] w fun e w' => e = .returned (.bool true) ∧ Below w.heap.size w w' := by
  by_cases h1 : (30 : Int) < (len : Int)
  · clear h
    go_enter Tryd.func6, Tryd.ntmps6
    go_wp2_with fail
    go_ret
    exact ⟨rfl, Below.refl _ _⟩
  · by_cases h2 : (60 : Int) < (a.length : Int)
    · clear h
      go_enter Tryd.func6, Tryd.ntmps6
      go_wp2_with fail
      go_ret
      exact ⟨rfl, Below.refl _ _⟩
    · have h3 : (60 : Int) < (b.length : Int) := by omega
      clear h
      go_enter Tryd.func6, Tryd.ntmps6
      go_wp2_with fail
      go_ret
      exact ⟨rfl, Below.refl _ _⟩

set_option maxRecDepth 100000 in
/-- An array of things to do, opened. -/
theorem open_names {H : Type} {enc : TypeId × Value → H} {W : World} {fuel : Nat} {a : Option Addr} {len cap : Nat} {x : DataW H × List MemPlace}
    (h : DataW.trod enc Tryd.prog W 0 (fun _ => true) true fuel 71 [.slice a len cap] = some x) : ∃ q, Nms W a len q := by
  rcases Go.Deep.open_slice Tryd.underlying71 h with ⟨hcs, _⟩ | ⟨ad, l, c, m, k, D, Pl, hcs, _, hl, _, hm, _, hx⟩
  · simp at hcs
    exact ⟨fun _ => (0, [], []), .inl hcs.2.1⟩
  · simp at hcs
    obtain ⟨rfl, rfl, rfl⟩ := hcs
    by_cases h0 : len = 0
    · exact ⟨fun _ => (0, [], []), .inl h0⟩
    have hmc : m = cap := by simpa using hm
    have each : ∀ i, i < m → ∃ q : Int × Nm × Nm, W.cell? ((ad.add (i * 3)).add 0) = some (.int .i64 q.1) ∧ W.cell? ((ad.add (i * 3)).add 1) = some (tx q.2.1) ∧ W.cell? ((ad.add (i * 3)).add 2) = some (tx q.2.2) := by
      intro i hi
      obtain ⟨cs', c1, c2⟩ := hx i hi
      rw [show Tryd.prog.cellsOf 75 = 3 by kernel_rfl] at c1
      obtain ⟨_, hlen, hcell⟩ := World.cells?_some c1
      obtain ⟨xs, n', _, _, _, hxl, hf⟩ := DataW.trod_struct Tryd.underlying75 c2
      match cs', hlen with
      | [v0, v1, v2], _ =>
        have g0 := hf 0 _ rfl
        have g1 := hf 1 _ rfl
        have g2 := hf 2 _ rfl
        have l3 : xs.length = 3 := hxl
        match xs, l3 with
        | [y0, y1, y2], _ =>
          obtain ⟨n0, e0, _, _⟩ := DataW.trod_int Tryd.underlying3 g0
          obtain ⟨s1, e1, _, _⟩ := DataW.trod_string Tryd.underlying9 g1
          obtain ⟨s2, e2, _, _⟩ := DataW.trod_string Tryd.underlying9 g2
          have z : Tryd.prog.cellsOf 3 = 1 := by kernel_rfl
          have z' : Tryd.prog.cellsOf 9 = 1 := by kernel_rfl
          simp [z, z'] at e0 e1 e2
          subst e0 e1 e2
          exact ⟨(n0, s1.data.toList, s2.data.toList), hcell 0 (by omega), by have := hcell 1 (by omega); simpa [tx] using this, by have := hcell 2 (by omega); simpa [tx] using this⟩
    have first := each 0 (by omega)
    obtain ⟨q0, f0, _⟩ := first
    obtain ⟨blk, off, spot⟩ := ad
    have hspot : spot = none := by simpa [Addr.add] using World.cell?_spot f0
    subst hspot
    have hb : blk < W.heap.size := by simpa [Addr.add] using World.block_lt_of_cell? W _ f0
    have all : ∃ q : Nat → Int × Nm × Nm, ∀ i, i < m → W.cell? (((⟨blk, off, none⟩ : Addr).add (i * 3)).add 0) = some (.int .i64 (q i).1) ∧ W.cell? (((⟨blk, off, none⟩ : Addr).add (i * 3)).add 1) = some (tx (q i).2.1) ∧ W.cell? (((⟨blk, off, none⟩ : Addr).add (i * 3)).add 2) = some (tx (q i).2.2) := by
      refine ⟨fun i => if hi : i < m then Classical.choose (each i hi) else (0, [], []), fun i hi => ?_⟩
      simp only [hi, dif_pos]
      exact Classical.choose_spec (each i hi)
    obtain ⟨q, hq⟩ := all
    refine ⟨q, .inr ⟨blk, off, rfl, hb, fun i hi => ?_⟩⟩
    have := hq i (by omega)
    simp only [Addr.add_lit, Nat.add_zero] at this
    exact this

end Go.Proofs.YtpibokijbidgdabDoor

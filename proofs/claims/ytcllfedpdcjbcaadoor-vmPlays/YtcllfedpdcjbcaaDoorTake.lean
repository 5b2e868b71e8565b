/- What takeOut of package buddy does to a world, by its Go text; the library's DeleteFunc by its contract. -/
import Derived.Test.YtcllfedpdcjbcaaDoorLeast
import Derived.Test.YtcllfedpdcjbcaaDoorPages
import Derived.Test.YtcllfedpdcjbcaaDoorShelf1
import Derived.Deep.RegionWith
namespace Go.Proofs.YtcllfedpdcjbcaaDoor
open Go.RowKit Go.Shelf Go.Lib Go.Sort

/-- A number as a cell. -/
abbrev ic (x : Int) : Value := .int .i64 x

theorem ic_one : OneCell ic := fun _ => rfl

set_option maxHeartbeats 400000 in
theorem same_call (W : World) (y : Nat) (z u : Int) (h : W.cell? ⟨y, 0, none⟩ = some (.int .i64 z)) :
    Calls Tryd.prog 120 #[.int .i64 u, .pointer (some ⟨y, 0, none⟩)] W fun e w' => e = .returned (.bool (u == z)) ∧ ∃ q, w' = W.drewN q := by
  go_enter Tryd.func120, Tryd.ntmps120
  go_wp2
  go_ret
  exact ⟨rfl, 0, rfl⟩

theorem holds_row {W : World} {s : Nat} {c : Array Value} {xs : List Int} (h1 : W.heap[s]? = some (.cells c 3)) (h2 : ∀ j, j < xs.length → c[j]? = some (.int .i64 (xs.getD j 0))) : Holds ic W s 0 xs.toArray := by
  intro j hj
  have hj' : j < xs.length := by simpa using hj
  refine ⟨?_, by simp [World.frozen?, h1]⟩
  rw [cell_of_row W s _ _ _ _ h1, Nat.zero_add, h2 j hj']
  simp [ic, hj', List.getD_eq_getElem?_getD]

theorem row_put {W : World} {s : Nat} {c : Array Value} {n : Nat} (q : Nat) (ys : List Int) (h1 : W.heap[s]? = some (.cells c 3)) (hn : ys.length = n) (hc : n ≤ c.size) :
    ∃ c', (putRow ic (Sort.ahead W q) s 0 ys.toArray).heap[s]? = some (.cells c' 3) ∧ c'.size = c.size ∧ ∀ j, j < n → c'[j]? = some (.int .i64 (ys.getD j 0)) := by
  refine ⟨putCells ic 0 ys.toArray c, heap_mapBlock_same (Sort.ahead W q) s _ c _ _ h1, by simp [putCells], fun j hj => ?_⟩
  have hj' : j < ys.length := by omega
  have hjc : j < c.size := by omega
  simp [putCells, hj', hjc, ic, List.getD_eq_getElem?_getD]

set_option maxHeartbeats 1000000 in
theorem del_row {W : World} {o : Option Nat} {v : Value} {xs : List Int} (hr : RowAt W o v xs) (y : Nat) (z : Int) (hy : W.cell? ⟨y, 0, none⟩ = some (.int .i64 z)) (hne : o ≠ some y) :
    Calls Tryd.prog 119 #[v, .func (.func 120) #[] #[.pointer (some ⟨y, 0, none⟩)]] W fun e w' => ∃ a c, e = .returned (.slice a (xs.filter fun x => !(x == z)).length c) ∧ RowAt w' o (.slice a (xs.filter fun x => !(x == z)).length c) (xs.filter fun x => !(x == z)) ∧ Fr (fun i => o = some i) W w' := by
  cases o with
  | none =>
    obtain ⟨rfl, rfl⟩ := hr
    have hI := AnyE.slices_IndexFunc_empty Tryd.indexL none 0 (.func (.func 120) #[] #[.pointer (some ⟨y, 0, none⟩)]) W
    go_enter Tryd.func119, Tryd.ntmps119
    go_wp2_with (go_at_call 127; refine hI.mono ?_; rintro e w' ⟨rfl, rfl⟩)
    go_ret
    exact ⟨none, 0, rfl, ⟨rfl, rfl⟩, Fr.refl _ _⟩
  | some s =>
    obtain ⟨c, h1, rfl, h3, h4, h5⟩ := hr
    have hys : y ≠ s := fun e => hne (by rw [e])
    have hyl : y < W.heap.size := World.block_lt_of_cell? W _ hy
    have hH := holds_row h1 h5
    have hp : PredAt Tryd.prog 120 #[.pointer (some ⟨y, 0, none⟩)] ic (fun x => x == z) W := by
      intro W' x hb
      exact same_call W' y z x (by rw [hb.cell (p := ⟨y, 0, none⟩) hyl]; exact hy)
    have hpo : PredOver Tryd.prog 120 #[.pointer (some ⟨y, 0, none⟩)] ic (fun x => x == z) s 0 xs.toArray.size W := by
      intro n os dk x _
      refine same_call _ y z x ?_
      have hb : (sortWorld ic W s 0 n dk os).heap[y]? = W.heap[y]? := by
        show (W.heap.modify s _ ++ os)[y]? = _
        rw [Array.getElem?_append_left (by simpa using hyl), Array.getElem?_modify, if_neg (fun e => hys e.symm)]
      rw [World.cell?_of_block (w := W) (a := ⟨y, 0, none⟩) hb]; exact hy
    have hm : c.size ≤ 9223372036854775807 := by have : maxLen ≤ 9223372036854775807 := by decide
                                                 omega
    have h := AnyE.slices_DeleteFunc Tryd.deleteL ic ic_one (fun x => x == z) 120 #[.pointer (some ⟨y, 0, none⟩)] (fun _ _ => by kernel_rfl) 0 (fun _ => by kernel_rfl) s 0 c.size xs.toArray W hp hpo hH (by simp; omega) (by simpa using h3)
    simp only [List.size_toArray] at h
    refine h.mono ?_
    rintro e w' ⟨rfl, q, rfl⟩
    refine ⟨_, _, rfl, ?_, ?_⟩
    · have hl : (xs.filter fun x => !(x == z)).length ≤ xs.length := List.length_filter_le _ _
      obtain ⟨c', e1, e2, e3⟩ := row_put (n := xs.length) q ((xs.filter fun x => !(x == z)) ++ List.replicate (xs.length - (xs.filter fun x => !(x == z)).length) 0) h1 (by simp; omega) h3
      refine ⟨c', e1, by rw [e2], by omega, by omega, fun j hj => ?_⟩
      rw [e3 j (by omega), List.getD_eq_getElem?_getD, List.getElem?_append_left hj, ← List.getD_eq_getElem?_getD]
    · exact (Fr.drewN _ W q).mapBlock s _ (fun _ => rfl)
end Go.Proofs.YtcllfedpdcjbcaaDoor

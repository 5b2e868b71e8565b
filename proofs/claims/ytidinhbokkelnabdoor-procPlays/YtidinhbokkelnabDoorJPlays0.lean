/- ProcPlays: what is asked behind each item. -/
import Derived.Test.YtidinhbokkelnabDoorJState
namespace Go.Proofs.YtidinhbokkelnabDoor
open Go.RowKit Go.Maps Go.Sort

/-- Both tables alike, and all that lay in w5 lies. -/
structure JB (w0 : World) (x : Nat) (xs : Array Value) (t g r : Nat) (P : Ps) (w5 V : World) : Prop where
  st : JJ w0 x xs t g r V P P
  bel : Below w5.heap.size w5 V
section
variable {w0 w5 V V' : World} {x t g r : Nat} {xs : Array Value} {P : Ps} {n : Int}
theorem JB.stay (h : JB w0 x xs t g r P w5 V) (hb : Below V.heap.size V V') : JB w0 x xs t g r P w5 V' := ⟨h.st.stay hb, h.bel.trans (hb.mono h.bel.size)⟩
theorem JB.bare (h : JB w0 x xs t g r P w5 V) (c : Int) (hg : ∀ w', Below w0.heap.size w0 w' → w'.cell? ⟨0, 0, none⟩ = some errT) : Calls Tryd.prog 20 #[uev c, .int .i64 c] V fun e w' => e = .returned (.bool true) ∧ JB w0 x xs t g r P w5 w' := by
  refine (bareJ c V (hg V h.st.bel)).mono ?_
  rintro e w' ⟨rfl, hb⟩
  exact ⟨rfl, h.stay hb⟩
theorem JB.pids (h : JB w0 x xs t g r P w5 V) : Calls Tryd.prog 66 #[wp t] V fun e w' => ∃ b cap, e = .returned (.slice (some ⟨b, 0, none⟩) (pidsJ P).length cap) ∧ (∀ j (hj : j < (pidsJ P).length), w'.cell? ⟨b, j, none⟩ = some (.int .i64 (pidsJ P)[j])) ∧ JB w0 x xs t g r P w5 w' := by
  refine h.st.pidsA.mono ?_
  rintro e w' ⟨b, cap, rfl, h1, h2, h3, h4⟩
  exact ⟨b, cap, rfl, h3, h.stay h4⟩
theorem JB.same (h : JB w0 x xs t g r P w5 V) {a b cap cap' : Nat} (ha : ∀ j (hj : j < (pidsJ P).length), V.cell? ⟨a, j, none⟩ = some (.int .i64 (pidsJ P)[j])) (hbl : b < w5.heap.size) (hb : ∀ j (hj : j < (pidsJ P).length), w5.cell? ⟨b, j, none⟩ = some (.int .i64 (pidsJ P)[j])) :
    Calls Tryd.prog 65 #[.slice (some ⟨a, 0, none⟩) (pidsJ P).length cap, .slice (some ⟨b, 0, none⟩) (pidsJ P).length cap'] V fun e w' => e = .returned (.bool true) ∧ JB w0 x xs t g r P w5 w' := by
  have hl := pidsJ_len P
  refine (sameInts_ok (by omega) ha (fun j hj => by rw [h.bel.cell (p := ⟨b, j, none⟩) hbl]; exact hb j hj)).mono ?_
  rintro e w' ⟨rfl, q, rfl⟩
  exact ⟨rfl, h.stay ⟨rfl, rfl, rfl, Nat.le_refl _, fun _ _ => rfl⟩⟩
theorem JB.runsA (h : JB w0 x xs t g r P w5 V) (n : Int) (hn : (Lit.int .i64 n).wf = true) : Calls Tryd.prog 67 #[wp t, .int .i64 n] V fun e w' => e = .returned (uev (if runsJ P n = true then 0 else 7)) ∧ JB w0 x xs t g r P w5 w' := by
  refine (h.st.runsA n hn).mono ?_
  rintro e w' ⟨rfl, hb⟩
  exact ⟨rfl, h.stay hb⟩
theorem JB.runsD (h : JB w0 x xs t g r P w5 V) (n : Int) (hn : (Lit.int .i64 n).wf = true) : Calls Tryd.prog 68 #[wp r, .int .i64 n] V fun e w' => e = .returned (.bool (runsJ P n)) ∧ JB w0 x xs t g r P w5 w' := by
  refine (h.st.runsD n hn).mono ?_
  rintro e w' ⟨rfl, rfl⟩
  exact ⟨rfl, h⟩
theorem runsV (b : Bool) (w : World) : (binOp BinOp.eql 28 (uev (if b = true then 0 else 7)) .nilIface).run Tryd.prog w = .ok (.bool b) w := by
  cases b <;> kernel_rfl
theorem runsG (b : Bool) (k : Nat) (w : World) : (eqGuard BinOp.eql 28 (.tmp k) (.const .nilIface) (uev (if b = true then 0 else 7)) .nilIface).run Tryd.prog w = .ok () w := by
  cases b <;> kernel_rfl
theorem JB.stateA (h : JB w0 x xs t g r P w5 V) (n : Int) (hn : (Lit.int .i64 n).wf = true) : Calls Tryd.prog 69 #[wp t, .int .i64 n] V fun e w' => e = .returned (.int .i64 (stJ P n)) ∧ JB w0 x xs t g r P w5 w' ∧ Below V.heap.size V w' := by
  refine (h.st.jl.stateA n hn).mono ?_
  rintro e w' ⟨rfl, hb⟩
  exact ⟨rfl, h.stay hb, hb⟩
theorem JB.parentA (h : JB w0 x xs t g r P w5 V) (n : Int) (hn : (Lit.int .i64 n).wf = true) : Calls Tryd.prog 70 #[wp t, .int .i64 n] V fun e w' => e = .returned (.int .i64 (parJ P n)) ∧ JB w0 x xs t g r P w5 w' ∧ Below V.heap.size V w' := by
  refine (h.st.jl.parentA n hn).mono ?_
  rintro e w' ⟨rfl, hb⟩
  exact ⟨rfl, h.stay hb, hb⟩
/-- A number of the list, and one's fields, lie there besides. -/
structure JK (w0 : World) (x : Nat) (xs : Array Value) (t g r : Nat) (P : Ps) (w5 : World) (b i z : Nat) (N pN sN : Int) (V : World) : Prop where
  st : JB w0 x xs t g r P w5 V
  cb : V.cell? ⟨b, i, none⟩ = some (.int .i64 N)
  c0 : V.cell? ⟨z, 0, none⟩ = some (.int .i64 pN)
  c1 : V.cell? ⟨z, 1, none⟩ = some (.int .i64 sN)
theorem JK.stay {b i z : Nat} {N pN sN : Int} (h : JK w0 x xs t g r P w5 b i z N pN sN V) (hb : Below V.heap.size V V') : JK w0 x xs t g r P w5 b i z N pN sN V' :=
  ⟨h.st.stay hb, by rw [hb.cell (p := ⟨b, i, none⟩) (World.block_lt_of_cell? V _ h.cb)]; exact h.cb, by rw [hb.cell (p := ⟨z, 0, none⟩) (World.block_lt_of_cell? V _ h.c0)]; exact h.c0, by rw [hb.cell (p := ⟨z, 1, none⟩) (World.block_lt_of_cell? V _ h.c1)]; exact h.c1⟩
theorem JK.new {b i : Nat} {N pN sN : Int} (h : JB w0 x xs t g r P w5 V) (hb : V.cell? ⟨b, i, none⟩ = some (.int .i64 N)) (cd : Int) (ma mb : Nat) : JK w0 x xs t g r P w5 b i V.heap.size N pN sN (V.alloc (.cells #[.int .i64 pN, .int .i64 sN, .int .i64 cd, .map (some ma), .map (some mb)] 114)).drew := by
  have hA := (Below.refl _ V).alloc (Nat.le_refl _) (.cells #[.int .i64 pN, .int .i64 sN, .int .i64 cd, .map (some ma), .map (some mb)] 114)
  have hn : (V.alloc (.cells #[.int .i64 pN, .int .i64 sN, .int .i64 cd, .map (some ma), .map (some mb)] 114)).drew.heap[V.heap.size]? = some (.cells #[.int .i64 pN, .int .i64 sN, .int .i64 cd, .map (some ma), .map (some mb)] 114) := by
    show (V.heap.push _)[V.heap.size]? = _
    rw [Array.getElem?_push, if_pos rfl]
  refine ⟨h.stay (belowJ_dr hA), ?_, ?_, ?_⟩
  · rw [(belowJ_dr hA).cell (p := ⟨b, i, none⟩) (World.block_lt_of_cell? V _ hb)]; exact hb
  · rw [cell_of_row _ _ _ _ _ _ hn]; rfl
  · rw [cell_of_row _ _ _ _ _ _ hn]; rfl
theorem JK.state {b i z : Nat} {N pN sN : Int} (h : JK w0 x xs t g r P w5 b i z N pN sN V) (hn : (Lit.int .i64 N).wf = true) (hs : stJ P N = sN) : Calls Tryd.prog 69 #[wp t, .int .i64 N] V fun e w' => e = .returned (.int .i64 sN) ∧ JK w0 x xs t g r P w5 b i z N pN sN w' := by
  refine (h.st.stateA N hn).mono ?_
  rintro e w' ⟨rfl, _, hb⟩
  exact ⟨by rw [hs], h.stay hb⟩
theorem JK.parent {b i z : Nat} {N pN sN : Int} (h : JK w0 x xs t g r P w5 b i z N pN sN V) (hn : (Lit.int .i64 N).wf = true) (hs : parJ P N = pN) : Calls Tryd.prog 70 #[wp t, .int .i64 N] V fun e w' => e = .returned (.int .i64 pN) ∧ JK w0 x xs t g r P w5 b i z N pN sN w' := by
  refine (h.st.parentA N hn).mono ?_
  rintro e w' ⟨rfl, _, hb⟩
  exact ⟨by rw [hs], h.stay hb⟩
end
end Go.Proofs.YtidinhbokkelnabDoor
